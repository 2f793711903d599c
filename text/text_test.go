package text

import (
	"bytes"
	"math"
	"slices"
	"strings"
	"testing"

	"gouache/api"
)

// edgeBytes are the bytes at which one of UTF-8's rules, or a rule of P1.1, begins or ends.
var edgeBytes = []byte{
	0x00, 0x09, 0x0a, 0x0c, 0x0d, 'a', 0x7f,
	0x80, 0x8f, 0x90, 0x9f, 0xa0, 0xbf,
	0xc0, 0xc1, 0xc2, 0xdf,
	0xe0, 0xe1, 0xec, 0xed, 0xee, 0xef,
	0xf0, 0xf1, 0xf3, 0xf4, 0xf5, 0xf7, 0xf8, 0xfb, 0xfc, 0xfd, 0xfe, 0xff,
}

// isChar is the document's: up to U+10FFFF, none of U+D800 to U+DFFF.
func isChar(c rune) bool {
	return c >= 0 && c <= 0x10ffff && (c < 0xd800 || c > 0xdfff)
}

// encode is UTF-8 by its definition, so that the tests do not hang on the library that the program calls.
func encode(c rune) []byte {
	switch {
	case c < 0x80:
		return []byte{byte(c)}
	case c < 0x800:
		return []byte{0xc0 | byte(c>>6), 0x80 | byte(c&0x3f)}
	case c < 0x10000:
		return []byte{0xe0 | byte(c>>12), 0x80 | byte(c>>6&0x3f), 0x80 | byte(c&0x3f)}
	}
	return []byte{0xf0 | byte(c>>18), 0x80 | byte(c>>12&0x3f), 0x80 | byte(c>>6&0x3f), 0x80 | byte(c&0x3f)}
}

// leading is the character that begins b, with its length; the length is 0 if none does.
func leading(b []byte) (rune, int) {
	for n := 1; n <= 4 && n <= len(b); n++ {
		c := rune(b[0])
		if n > 1 {
			c = rune(b[0]) & (0x7f >> n)
		}
		for _, x := range b[1:n] {
			c = c<<6 | rune(x&0x3f)
		}
		if isChar(c) && bytes.Equal(encode(c), b[:n]) {
			return c, n
		}
	}
	return 0, 0
}

// wantRunes is P1.1 said step by step: first the characters, then what becomes of them.
func wantRunes(b []byte) []rune {
	var chars []rune
	for len(b) > 0 {
		c, n := leading(b)
		if n == 0 {
			c, n = 0xfffd, 1
		}
		chars = append(chars, c)
		b = b[n:]
	}
	var out []rune
	for i := 0; i < len(chars); i++ {
		switch c := chars[i]; c {
		case 0x0d:
			out = append(out, 0x0a)
			if i+1 < len(chars) && chars[i+1] == 0x0a {
				i++
			}
		case 0x0c:
			out = append(out, 0x0a)
		case 0:
			out = append(out, 0xfffd)
		default:
			out = append(out, c)
		}
	}
	return out
}

func TestRunesByExample(t *testing.T) {
	cases := []struct {
		what string
		in   string
		want []rune
	}{
		{"empty", "", nil},
		{"letters", "abc", []rune{'a', 'b', 'c'}},
		{"2 to 4 bytes", "\u00e4\u20ac\U0001f600", []rune{0xe4, 0x20ac, 0x1f600}},
		{"CR LF", "a\r\nb", []rune{'a', 10, 'b'}},
		{"CR", "a\rb", []rune{'a', 10, 'b'}},
		{"CR at the end", "a\r", []rune{'a', 10}},
		{"LF CR", "\n\r", []rune{10, 10}},
		{"CR CR LF", "\r\r\n", []rune{10, 10}},
		{"CR LF LF", "\r\n\n", []rune{10, 10}},
		{"CR LF CR LF", "\r\n\r\n", []rune{10, 10}},
		{"CR FF", "\r\f", []rune{10, 10}},
		{"FF LF", "\f\n", []rune{10, 10}},
		{"FF", "a\fb", []rune{'a', 10, 'b'}},
		{"CR NUL LF", "\r\x00\n", []rune{10, 0xfffd, 10}},
		{"CR, a byte that is none, LF", "\r\xff\n", []rune{10, 0xfffd, 10}},
		{"NUL", "a\x00b", []rune{'a', 0xfffd, 'b'}},
		{"other controls stay", "\x01\t\x0b\x1f\x7f", []rune{1, 9, 11, 31, 127}},
		{"U+0085 and U+2028 stay", "\u0085\u2028", []rune{0x85, 0x2028}},
		{"U+FEFF stays", "\ufeffa", []rune{0xfeff, 'a'}},
		{"U+FFFD", "\ufffd", []rune{0xfffd}},
		{"0xff", "\xffa", []rune{0xfffd, 'a'}},
		{"one that only goes on", "\x80a", []rune{0xfffd, 'a'}},
		{"cut short, 2", "\xc3", []rune{0xfffd}},
		{"cut short, 3", "\xe2\x82", []rune{0xfffd, 0xfffd}},
		{"cut short, 4", "\xf0\x9f\x98", []rune{0xfffd, 0xfffd, 0xfffd}},
		{"cut short by a letter", "\xe2\x82a", []rune{0xfffd, 0xfffd, 'a'}},
		{"cut short by another one", "\xe2\xc3\xa4", []rune{0xfffd, 0xe4}},
		{"not the shortest, 2", "\xc0\x80\xc1\xbf", []rune{0xfffd, 0xfffd, 0xfffd, 0xfffd}},
		{"not the shortest, 3", "\xe0\x9f\xbf", []rune{0xfffd, 0xfffd, 0xfffd}},
		{"not the shortest, 4", "\xf0\x8f\xbf\xbf", []rune{0xfffd, 0xfffd, 0xfffd, 0xfffd}},
		{"the least of 2, 3, 4", "\xc2\x80\xe0\xa0\x80\xf0\x90\x80\x80", []rune{0x80, 0x800, 0x10000}},
		{"U+D7FF", "\xed\x9f\xbf", []rune{0xd7ff}},
		{"U+D800", "\xed\xa0\x80", []rune{0xfffd, 0xfffd, 0xfffd}},
		{"U+DFFF", "\xed\xbf\xbf", []rune{0xfffd, 0xfffd, 0xfffd}},
		{"U+D83D U+DE00", "\xed\xa0\xbd\xed\xb8\x80", []rune{0xfffd, 0xfffd, 0xfffd, 0xfffd, 0xfffd, 0xfffd}},
		{"U+E000", "\xee\x80\x80", []rune{0xe000}},
		{"U+FFFF", "\xef\xbf\xbf", []rune{0xffff}},
		{"U+10FFFF", "\xf4\x8f\xbf\xbf", []rune{0x10ffff}},
		{"above it", "\xf4\x90\x80\x80", []rune{0xfffd, 0xfffd, 0xfffd, 0xfffd}},
		{"5 bytes", "\xf8\x88\x80\x80\x80", []rune{0xfffd, 0xfffd, 0xfffd, 0xfffd, 0xfffd}},
	}
	for _, c := range cases {
		if got := Runes([]byte(c.in)); !slices.Equal(got, c.want) {
			t.Errorf("%s: Runes(%q) = %U, want %U", c.what, c.in, got, c.want)
		}
	}
	if got := Runes(nil); len(got) != 0 {
		t.Errorf("Runes(nil) = %U, want none", got)
	}
}

// eachText calls f with every text of at most three edge bytes, and with those of four that begin with a U+000D or as a long character could.
func eachText(f func(b []byte)) {
	f(nil)
	for _, w := range edgeBytes {
		f([]byte{w})
		for _, x := range edgeBytes {
			f([]byte{w, x})
			for _, y := range edgeBytes {
				f([]byte{w, x, y})
				for _, z := range edgeBytes {
					if w >= 0xe0 || w == 0x0d {
						f([]byte{w, x, y, z})
					}
				}
			}
		}
	}
}

func TestRunesOfAllEdges(t *testing.T) {
	faults := 0
	eachText(func(b []byte) {
		if got, want := Runes(b), wantRunes(b); !slices.Equal(got, want) && faults < 10 {
			faults++
			t.Errorf("Runes(% x) = %U, want %U", b, got, want)
		}
	})
}

func TestRunesOfTwoBytes(t *testing.T) {
	for i := range 1 << 16 {
		b := []byte{byte(i >> 8), byte(i)}
		if got, want := Runes(b), wantRunes(b); !slices.Equal(got, want) {
			t.Fatalf("Runes(% x) = %U, want %U", b, got, want)
		}
	}
}

func TestBytesByExample(t *testing.T) {
	cases := []struct {
		what string
		in   []rune
		want string
	}{
		{"nil", nil, ""},
		{"empty", []rune{}, ""},
		{"1 to 4 bytes", []rune{'a', 0xe4, 0x20ac, 0x1f600}, "a\xc3\xa4\xe2\x82\xac\xf0\x9f\x98\x80"},
		{"nothing is settled here", []rune{0, 0x0c, 0x0d, 0x0a}, "\x00\f\r\n"},
		{"U+D7FF, U+E000", []rune{0xd7ff, 0xe000}, "\xed\x9f\xbf\xee\x80\x80"},
		{"U+D800, U+DFFF", []rune{0xd800, 0xdfff}, "\xef\xbf\xbd\xef\xbf\xbd"},
		{"a pair of halves", []rune{0xd83d, 0xde00}, "\xef\xbf\xbd\xef\xbf\xbd"},
		{"U+10FFFF", []rune{0x10ffff}, "\xf4\x8f\xbf\xbf"},
		{"above it", []rune{0x110000, math.MaxInt32}, "\xef\xbf\xbd\xef\xbf\xbd"},
		{"below 0", []rune{-1, 'a', math.MinInt32}, "\xef\xbf\xbda\xef\xbf\xbd"},
	}
	for _, c := range cases {
		if got := Bytes(c.in); string(got) != c.want {
			t.Errorf("%s: Bytes(%U) = % x, want % x", c.what, c.in, got, c.want)
		}
	}
}

func TestBytesAndRunesOfEachCharacter(t *testing.T) {
	for c := rune(-2); c <= 0x110002; c++ {
		want := encode(0xfffd)
		if isChar(c) {
			want = encode(c)
		}
		if got := Bytes([]rune{c}); !bytes.Equal(got, want) {
			t.Fatalf("Bytes(%U) = % x, want % x", c, got, want)
		}
		if got, w := Runes(want), wantRunes(want); !slices.Equal(got, w) {
			t.Fatalf("Runes(% x) = %U, want %U", want, got, w)
		}
	}
}

func TestRunesOfBytesOfRunes(t *testing.T) {
	faults := 0
	check := func(b []byte) {
		told := Runes(b)
		if again := Runes(Bytes(told)); !slices.Equal(again, told) && faults < 10 {
			faults++
			t.Errorf("Runes(Bytes(Runes(% x))) = %U, want %U", b, again, told)
		}
	}
	eachText(check)
	var all []byte
	for c := rune(0); c <= 0x10ffff; c++ {
		if isChar(c) {
			all = append(all, encode(c)...)
		}
	}
	check(all)
	for i := range all {
		all[i] ^= byte(i * 7 >> 3)
	}
	check(all)
}

func TestRunesKeepsNothing(t *testing.T) {
	room := []byte("a\r\nb\x00cREST")
	in := room[:6]
	got := Runes(in)
	if string(room) != "a\r\nb\x00cREST" {
		t.Fatalf("the argument was changed: %q", room)
	}
	other := Runes(in)
	clear(room)
	clear(other[:cap(other)])
	if want := []rune{'a', 10, 'b', 0xfffd, 'c'}; !slices.Equal(got, want) {
		t.Errorf("an answer was changed from outside: %U, want %U", got, want)
	}
}

func TestBytesKeepsNothing(t *testing.T) {
	room := []rune{'a', -1, 0xe4, 'R', 'E'}
	in := room[:3]
	got := Bytes(in)
	if !slices.Equal(room, []rune{'a', -1, 0xe4, 'R', 'E'}) {
		t.Fatalf("the argument was changed: %U", room)
	}
	other := Bytes(in)
	clear(room)
	clear(other[:cap(other)])
	if want := "a\xef\xbf\xbd\xc3\xa4"; string(got) != want {
		t.Errorf("an answer was changed from outside: % x, want % x", got, want)
	}
}

// askedRunes calls f with numbers at their ends, and with every character and what is next to them.
func askedRunes(f func(c rune)) {
	for _, c := range []rune{math.MinInt32, math.MinInt32 + 1, -0x110000, math.MaxInt32 - 1, math.MaxInt32} {
		f(c)
	}
	for c := rune(-256); c <= 0x110100; c++ {
		f(c)
	}
}

// among: is c one of the characters of set? What is below 0 is in none.
func among(set string, c rune) bool {
	return c >= 0 && c < 0x80 && strings.IndexByte(set, byte(c)) >= 0
}

const (
	smalls   = "abcdefghijklmnopqrstuvwxyz"
	capitals = "ABCDEFGHIJKLMNOPQRSTUVWXYZ"
	digits   = "0123456789"
)

func TestKindsOfCharacters(t *testing.T) {
	kinds := []struct {
		what string
		asks func(c rune) bool
		set  string
		high bool
	}{
		{"Digit", Digit, digits, false},
		{"Blank", Blank, " \t\n", false},
		{"Start", Start, smalls + capitals + "_", true},
		{"Part", Part, smalls + capitals + digits + "_-", true},
	}
	for _, k := range kinds {
		askedRunes(func(c rune) {
			want := among(k.set, c) || k.high && c >= 0x80
			if got := k.asks(c); got != want {
				t.Fatalf("%s(%d) = %v, want %v", k.what, c, got, want)
			}
		})
	}
}

func TestHex(t *testing.T) {
	askedRunes(func(c rune) {
		want := -1
		if among(digits+"abcdef", c) {
			want = strings.IndexByte(digits+"abcdef", byte(c))
		} else if among("ABCDEF", c) {
			want = 10 + strings.IndexByte("ABCDEF", byte(c))
		}
		if got := Hex(c); got != want {
			t.Fatalf("Hex(%d) = %d, want %d", c, got, want)
		}
	})
}

func TestFold(t *testing.T) {
	cases := []struct{ in, want string }{
		{"", ""},
		{smalls, smalls},
		{capitals, smalls},
		{"@AZ[`az{", "@az[`az{"},
		{"Font-SIZE_09", "font-size_09"},
		{"\u00c4\u0130\u212a\u03a3", "\u00c4\u0130\u212a\u03a3"},
		{"A\xffB\xc3C\xed\xa0\x80D", "a\xffb\xc3c\xed\xa0\x80d"},
		{"A\x00\r\n\fB", "a\x00\r\n\fb"},
		{strings.Repeat("Q", 100000), strings.Repeat("q", 100000)},
	}
	for _, c := range cases {
		if got := Fold(c.in); got != c.want {
			t.Errorf("Fold(%q) = %q, want %q", c.in, got, c.want)
		}
	}
	for i := range 256 {
		in := string([]byte{byte(i)})
		want := in
		if at := strings.IndexByte(capitals, byte(i)); at >= 0 {
			want = smalls[at : at+1]
		}
		if got := Fold(in); got != want {
			t.Errorf("Fold(%q) = %q, want %q", in, got, want)
		}
	}
}

func TestName(t *testing.T) {
	most := "a" + strings.Repeat("-", api.MaxName-1)
	cases := []struct {
		in   string
		want bool
	}{
		{"", false},
		{"a", true},
		{"z", true},
		{"a-1", true},
		{"data-x_9", true},
		{"a--__", true},
		{"1a", false},
		{"-a", false},
		{"_a", false},
		{"A", false},
		{"aB", false},
		{"a b", false},
		{" a", false},
		{"a ", false},
		{"a.b", false},
		{"a\x00", false},
		{"a\n", false},
		{"\u00e4", false},
		{"a\u00e4", false},
		{"a\xff", false},
		{"\xffa", false},
		{most, true},
		{most + "a", false},
		{most[:api.MaxName-1] + "A", false},
		{most[:api.MaxName-1], true},
		{strings.Repeat("a", 100000), false},
	}
	for _, c := range cases {
		if got := Name(c.in); got != c.want {
			t.Errorf("Name(%q) = %v, want %v", c.in, got, c.want)
		}
	}
}

func TestNameOfEachByte(t *testing.T) {
	for i := range 256 {
		one := []byte{byte(i)}
		first := strings.IndexByte(smalls, byte(i)) >= 0
		later := strings.IndexByte(smalls+digits+"-_", byte(i)) >= 0
		if got := Name(string(one)); got != first {
			t.Errorf("Name(%q) = %v, want %v", one, got, first)
		}
		for _, s := range []string{"a" + string(one), "a" + string(one) + "b"} {
			if got := Name(s); got != later {
				t.Errorf("Name(%q) = %v, want %v", s, got, later)
			}
		}
	}
}
