package token

import (
	"strconv"
	"strings"

	"gouache/api"
	"gouache/text"
)

// writer writes texts so that Tokens reads them again.
type writer struct {
	strings.Builder
}

// number: a character by its number. The space ends the digits, whatever stands behind.
func (w *writer) number(c rune) {
	w.WriteByte('\\')
	w.WriteString(strconv.FormatInt(int64(c), 16))
	w.WriteByte(' ')
}

// slashed: a character with a \ ahead.
func (w *writer) slashed(c rune) {
	w.WriteByte('\\')
	w.WriteRune(c)
}

// unseen: a character that can't be seen where it is written, of which others stand instead; is it one?
func (w *writer) unseen(c rune) bool {
	switch {
	case c == 0:
		w.WriteRune(instead)
	case 0x01 <= c && c <= 0x1f || c == rubout:
		w.number(c)
	default:
		return false
	}
	return true
}

// part: a character within a name.
func (w *writer) part(c rune) {
	switch {
	case w.unseen(c):
	case text.Part(c):
		w.WriteRune(c)
	default:
		w.slashed(c)
	}
}

// parts: the characters of a text, each as within a name.
func (w *writer) parts(s string) {
	for _, c := range s {
		w.part(c)
	}
}

// name: a text as a name, that begins as names do.
func (w *writer) name(s string) {
	if s == "-" {
		w.slashed('-')
		return
	}
	for i, c := range s {
		if text.Digit(c) && (i == 0 || i == 1 && s[0] == '-') {
			w.number(c)
		} else {
			w.part(c)
		}
	}
}

// quoted: a text as a string.
func (w *writer) quoted(s string) {
	w.WriteByte('"')
	for _, c := range s {
		switch {
		case w.unseen(c):
		case c == '"' || c == '\\':
			w.slashed(c)
		default:
			w.WriteRune(c)
		}
	}
	w.WriteByte('"')
}

// hash: one that is no id need not begin as a name does.
func (w *writer) hash(t api.Token) {
	w.WriteByte('#')
	if t.Flag {
		w.name(t.Text)
	} else {
		w.parts(t.Text)
	}
}

// unit: of a number, to which an e might seem to belong.
func (w *writer) unit(s string) {
	if s == "" || s[0] != 'e' && s[0] != 'E' {
		w.name(s)
		return
	}
	w.number(rune(s[0]))
	w.parts(s[1:])
}

// sign: of a token that is one sign.
func (w *writer) sign(kind int) {
	if api.Colon <= kind && kind <= api.CloseCurly {
		w.WriteByte(signs[kind-api.Colon])
	}
}
