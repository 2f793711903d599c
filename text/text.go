// Package text is layer 1: see shared/doc/01-text.md.
package text

import (
	"unicode/utf8"

	"gouache/api"
)

// Characters that can't be seen where they are written, by name.
const (
	tab      = 0x09
	newline  = 0x0a
	formFeed = 0x0c
	carriage = 0x0d
	instead  = 0xfffd
)

// Runes: the characters of bytes.
func Runes(b []byte) []rune {
	out := make([]rune, 0, utf8.RuneCount(b))
	last := rune(0)
	// A range over a string reads UTF-8 just as the document asks: a byte with which no character begins is U+FFFD by itself.
	for _, c := range string(b) {
		// The U+000D ahead of it has told this end of a line already.
		if last != carriage || c != newline {
			out = append(out, settled(c))
		}
		last = c
	}
	return out
}

// settled: a character with ends of lines made alike, and without U+0000.
func settled(c rune) rune {
	switch c {
	case carriage, formFeed:
		return newline
	case 0:
		return instead
	}
	return c
}

// Bytes: characters in bytes.
func Bytes(r []rune) []byte {
	out := make([]byte, 0, len(r))
	for _, c := range r {
		// What is no character, AppendRune writes as U+FFFD.
		out = utf8.AppendRune(out, c)
	}
	return out
}

// Fold: letters are small.
func Fold(s string) string {
	// By bytes, not by characters: bytes with which no character begins stay as they are.
	b := []byte(s)
	for i, c := range b {
		if 'A' <= c && c <= 'Z' {
			b[i] = c - 'A' + 'a'
		}
	}
	return string(b)
}

// Start: may a name begin with it?
func Start(c rune) bool {
	return small(c) || 'A' <= c && c <= 'Z' || c == '_' || c >= 0x80
}

// Part: may it be in a name?
func Part(c rune) bool {
	return Start(c) || Digit(c) || c == '-'
}

// Digit: 0 to 9.
func Digit(c rune) bool {
	return '0' <= c && c <= '9'
}

// Hex: a digit to base 16.
func Hex(c rune) int {
	switch {
	case Digit(c):
		return int(c - '0')
	case 'a' <= c && c <= 'f':
		return int(c-'a') + 10
	case 'A' <= c && c <= 'F':
		return int(c-'A') + 10
	}
	return -1
}

// Blank: does it stand between?
func Blank(c rune) bool {
	return c == ' ' || c == tab || c == newline
}

// Name: may it be a name of an element or attribute?
func Name(s string) bool {
	if len(s) == 0 || len(s) > api.MaxName {
		return false
	}
	fits := nameFits()
	for _, c := range s {
		if !fits(c) {
			return false
		}
	}
	return true
}

// nameFits: may a name go on with the next character? The closure keeps whether it has seen the first one, of which more is asked.
func nameFits() func(c rune) bool {
	first := true
	return func(c rune) bool {
		if first {
			first = false
			return small(c)
		}
		return small(c) || Digit(c) || c == '-' || c == '_'
	}
}

// small: a to z.
func small(c rune) bool {
	return 'a' <= c && c <= 'z'
}
