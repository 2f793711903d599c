package token

import (
	"math"
	"math/rand"
	"slices"
	"strconv"
	"strings"
	"testing"

	"gouache/api"
)

func check(t *testing.T, call, in, got, want string) {
	t.Helper()
	if got != want {
		t.Errorf("%s(%q): %q, want %q", call, in, got, want)
	}
}

// wantPart is how a character is written within a name, by P2.2.
func wantPart(c rune) string {
	switch {
	case c == 0:
		return "\ufffd"
	case c <= 0x1f || c == 0x7f:
		return `\` + strconv.FormatInt(int64(c), 16) + " "
	case c >= 0x80 || strings.ContainsRune("abcdefghijklmnopqrstuvwxyzABCDEFGHIJKLMNOPQRSTUVWXYZ0123456789-_", c):
		return string(c)
	}
	return `\` + string(c)
}

func TestEscape(t *testing.T) {
	for _, c := range []struct{ in, out string }{
		{"", ""}, {"a", "a"}, {"1", `\31 `}, {"12", `\31 2`}, {"-", `\-`}, {"--", "--"}, {"-a", "-a"}, {"-1", `-\31 `}, {"-12", `-\31 2`}, {"--1", "--1"}, {"a1", "a1"}, {"-a1", "-a1"},
		{"9", `\39 `}, {"a-", "a-"}, {"_1", "_1"}, {"\u00e91", "\u00e91"}, {".1", `\.1`}, {"+1", `\+1`}, {"-->", `--\>`}, {"-.5", `-\.5`}, {"- ", `-\ `},
		{"\x00", "\ufffd"}, {"\x001", "\ufffd1"}, {"-\x00", "-\ufffd"}, {"\x01", `\1 `}, {"\n", `\a `}, {"\x1f", `\1f `}, {"\x7f", `\7f `}, {"a\x0fb", `a\f b`}, {" ", `\ `}, {`\`, `\\`}, {`"`, `\"`}, {"a(b)", `a\(b\)`},
		{"\x80", "\ufffd"}, {"\xff\xfe", "\ufffd\ufffd"}, {"-\xff", "-\ufffd"}, {"\xc3", "\ufffd"}, {"\xed\xa0\x80", "\ufffd\ufffd\ufffd"}, {"\u0080", "\u0080"}, {"\U0010ffff", "\U0010ffff"}, {"\ufffd", "\ufffd"},
	} {
		check(t, "Escape", c.in, Escape(c.in), c.out)
	}
}

func TestEscapeOfEachCharacter(t *testing.T) {
	for c := rune(0); c < 0x3000; c++ {
		first, second := wantPart(c), wantPart(c)
		if '0' <= c && c <= '9' {
			first = `\3` + string(c) + " "
			second = first
		}
		if c == '-' {
			first = `\-`
		}
		s := string(c)
		check(t, "Escape", s, Escape(s), first)
		check(t, "Escape", "-"+s, Escape("-"+s), "-"+second)
		check(t, "Escape", "a"+s, Escape("a"+s), "a"+wantPart(c))
		check(t, "Escape", "--"+s, Escape("--"+s), "--"+wantPart(c))
	}
}

func TestQuote(t *testing.T) {
	for _, c := range []struct{ in, out string }{
		{"", `""`}, {"a", `"a"`}, {"1 -", `"1 -"`}, {`"`, `"\""`}, {`\`, `"\\"`}, {"'", `"'"`}, {"\x00", "\"\ufffd\""}, {"\x01", `"\1 "`}, {"\na", `"\a a"`}, {"\x1f", `"\1f "`}, {"\x7f", `"\7f "`}, {"\u0080\U0010ffff", "\"\u0080\U0010ffff\""},
		{"a\xffb", "\"a\ufffdb\""},
	} {
		check(t, "Quote", c.in, Quote(c.in), c.out)
	}
	for c := rune(0); c < 0x3000; c++ {
		want := string(c)
		if c < 0x20 || c == 0x7f || c == '"' || c == '\\' {
			want = wantPart(c)
		}
		check(t, "Quote", "a"+string(c)+"1", Quote("a"+string(c)+"1"), `"a`+want+`1"`)
	}
}

func TestSource(t *testing.T) {
	for _, c := range []struct {
		in  api.Token
		out string
	}{
		{tok(api.Ident, "1a"), `\31 a`}, {tok(api.Function, "-"), `\-(`}, {tok(api.Function, "a b"), `a\ b(`}, {tok(api.At, "-1"), `@-\31 `},
		{id("1a"), `#\31 a`}, {id("-"), `#\-`}, {tok(api.Hash, "1a"), "#1a"}, {tok(api.Hash, "-"), "#-"}, {tok(api.Hash, "-1"), "#-1"}, {tok(api.Hash, "a b\x00\x01\x7f\n"), "#a\\ b\ufffd\\1 \\7f \\a "}, {tok(api.Hash, ""), "#"},
		{tok(api.String, `a"b`), `"a\"b"`}, {whole(api.Number, "+1", ""), "+1"}, {broken(api.Percent, "1.5", ""), "1.5%"},
		{whole(api.Dimension, "1", "px"), "1px"}, {whole(api.Dimension, "1", ""), "1"}, {whole(api.Dimension, "1", "-"), `1\-`}, {whole(api.Dimension, "1", "-1"), `1-\31 `}, {whole(api.Dimension, "1", "2"), `1\32 `},
		{whole(api.Dimension, "1", "e"), `1\65 `}, {whole(api.Dimension, "1", "E"), `1\45 `}, {whole(api.Dimension, "1", "em"), `1\65 m`}, {whole(api.Dimension, "1", "E3"), `1\45 3`}, {whole(api.Dimension, "1", "e-1"), `1\65 -1`}, {whole(api.Dimension, "1", "e+\x00\n"), "1\\65 \\+\ufffd\\a "}, {whole(api.Dimension, "1", "ee"), `1\65 e`}, {whole(api.Dimension, "1", "me"), "1me"},
		{space, " "}, {tok(api.CDO, ""), "<!--"}, {tok(api.CDC, ""), "-->"}, {tok(api.Delim, "+"), "+"}, {tok(api.Delim, ""), ""}, {tok(api.Delim, `\`), `\`}, {tok(api.Delim, "\x00"), "\x00"},
		{tok(api.Colon, ""), ":"}, {tok(api.Semicolon, ""), ";"}, {tok(api.Comma, ""), ","}, {tok(api.OpenSquare, ""), "["}, {tok(api.CloseSquare, ""), "]"}, {tok(api.OpenRound, ""), "("}, {tok(api.CloseRound, ""), ")"}, {tok(api.OpenCurly, ""), "{"}, {tok(api.CloseCurly, ""), "}"},
		{tok(api.BadString, "a"), ""}, {tok(api.URL, "a"), ""}, {tok(api.BadURL, "a"), ""},
		// What a kind does not name is not looked at.
		{api.Token{Kind: api.Ident, Text: "a", Unit: "u", Whole: true, Flag: true}, "a"}, {api.Token{Kind: api.Number, Text: "1", Unit: "u"}, "1"}, {tok(api.Comma, "a"), ","}, {tok(api.Space, "a"), " "},
		// Kinds and texts that no text has.
		{api.Token{}, ""}, {tok(-1, "a"), ""}, {tok(25, "a"), ""}, {tok(math.MaxInt, "a"), ""}, {tok(math.MinInt, "a"), ""}, {tok(api.Number, "x"), "x"}, {tok(api.Delim, "ab"), "ab"}, {tok(api.Ident, ""), ""}, {tok(api.Ident, "\xff"), "\ufffd"}, {tok(api.Dimension, ""), ""},
	} {
		if got := Source(c.in); got != c.out {
			t.Errorf("Source(%+v): %q, want %q", c.in, got, c.out)
		}
	}
	for c := rune(0); c < 0x3000; c++ {
		check(t, "Source of Hash", string(c), Source(tok(api.Hash, string(c))), "#"+wantPart(c))
		check(t, "Source of Dimension", "e"+string(c), Source(broken(api.Dimension, "2", "e"+string(c))), `2\65 `+wantPart(c))
	}
}

func TestInt(t *testing.T) {
	for _, c := range []struct {
		in  string
		out int
	}{
		{"0", 0}, {"+0", 0}, {"-0", 0}, {"1", 1}, {"+12", 12}, {"-12", -12}, {"007", 7}, {"000000000000000000000000005", 5},
		{"999999", 999999}, {"1000000", 1000000}, {"1000001", 1000000}, {"-999999", -999999}, {"-1000000", -1000000}, {"-1000001", -1000000},
		{"9223372036854775807", 1000000}, {"9223372036854775808", 1000000}, {"-9223372036854775809", -1000000}, {strings.Repeat("9", 5000), 1000000}, {"-" + strings.Repeat("9", 5000), -1000000}, {"1" + strings.Repeat("0", 64), 1000000},
	} {
		for _, kind := range []int{api.Number, api.Percent, api.Dimension} {
			if n, ok := Int(whole(kind, c.in, "")); n != c.out || !ok {
				t.Errorf("Int(%d %q): %d, %v, want %d", kind, c.in, n, ok, c.out)
			}
			if n, ok := Int(whole(kind, c.in, "px")); n != c.out || !ok {
				t.Errorf("Int(%d %q px): %d, %v, want %d", kind, c.in, n, ok, c.out)
			}
			if n, ok := Int(broken(kind, c.in, "")); n != 0 || ok {
				t.Errorf("Int(%d %q, not Whole): %d, %v", kind, c.in, n, ok)
			}
		}
	}
}

func TestIntOfWhatIsNone(t *testing.T) {
	for _, s := range []string{"", "+", "-", "1.5", "1e3", "a", "1a", "a1", "--1", "+-1", "-+1", "1-", " 1", "1 ", "0x1", "1_0", "\u0661", "1\xff", "1000001x", "\x00"} {
		if n, ok := Int(whole(api.Number, s, "")); n != 0 || ok {
			t.Errorf("Int(%q): %d, %v", s, n, ok)
		}
	}
	for kind := -1; kind <= 26; kind++ {
		if kind >= api.Number && kind <= api.Dimension {
			continue
		}
		if n, ok := Int(whole(kind, "1", "")); n != 0 || ok {
			t.Errorf("Int of kind %d: %d, %v", kind, n, ok)
		}
	}
}

// readAgain is P2.4: what was written is one token.
func readAgain(t *testing.T, s string) {
	t.Helper()
	plain := string([]rune(s))
	if got := Tokens([]rune(Escape(s))); !slices.Equal(got, []api.Token{tok(api.Ident, plain)}) && s != "" {
		t.Errorf("Tokens of Escape(%q): %+v", s, got)
	}
	if got := Tokens([]rune(Quote(s))); !slices.Equal(got, []api.Token{tok(api.String, plain)}) {
		t.Errorf("Tokens of Quote(%q): %+v", s, got)
	}
}

func TestReadAgain(t *testing.T) {
	readAgain(t, "")
	for c := rune(1); c <= 0x10ffff; c++ {
		if c >= 0x3000 && c < 0x10fff0 && c%251 != 0 {
			continue
		}
		for _, s := range []string{string(c), "-" + string(c), "--" + string(c), string(c) + "a", string(c) + "1", "\n" + string(c)} {
			readAgain(t, s)
		}
	}
	chance := rand.New(rand.NewSource(4))
	for range 20000 {
		b := make([]byte, 1+chance.Intn(6))
		for i := range b {
			b[i] = byte(1 + chance.Intn(255))
		}
		readAgain(t, string(b))
	}
}

// TestSourceReadAgain: what Tokens has cut, but for what Source leaves out, is cut again from Source.
func TestSourceReadAgain(t *testing.T) {
	chance := rand.New(rand.NewSource(6))
	alphabet := []rune(edges)
	for range 60000 {
		s := make([]rune, 1+chance.Intn(8))
		for i := range s {
			s[i] = alphabet[chance.Intn(len(alphabet))]
		}
		for _, one := range Tokens(s) {
			if one.Kind == api.BadString || one.Kind == api.URL || one.Kind == api.BadURL || one.Text == `\` || strings.Contains(one.Text+one.Unit, "\x00") {
				continue
			}
			if got := Tokens([]rune(Source(one))); !slices.Equal(got, []api.Token{one}) {
				t.Fatalf("Tokens of Source(%+v): %+v", one, got)
			}
		}
	}
}

// TestNoTwoSpaces is the other half of P2.4.
func TestNoTwoSpaces(t *testing.T) {
	chance := rand.New(rand.NewSource(8))
	alphabet := []rune("a1 \t\n\"\\/#-(")
	for range 60000 {
		s := make([]rune, 1+chance.Intn(10))
		for i := range s {
			s[i] = alphabet[chance.Intn(len(alphabet))]
		}
		last := 0
		for _, one := range Tokens(s) {
			if one.Kind == api.Space && last == api.Space {
				t.Fatalf("two Spaces side by side in %q", string(s))
			}
			last = one.Kind
		}
	}
}
