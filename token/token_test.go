package token

import (
	"math/rand"
	"slices"
	"strings"
	"testing"

	"gouache/api"
	"gouache/text"
)

func tok(kind int, s string) api.Token { return api.Token{Kind: kind, Text: s} }

func whole(kind int, s, unit string) api.Token {
	return api.Token{Kind: kind, Text: s, Unit: unit, Whole: true}
}

func broken(kind int, s, unit string) api.Token {
	return api.Token{Kind: kind, Text: s, Unit: unit}
}

func id(s string) api.Token { return api.Token{Kind: api.Hash, Text: s, Flag: true} }

var space = tok(api.Space, "")

func checkTokens(t *testing.T, s string, want ...api.Token) {
	t.Helper()
	if got := Tokens([]rune(s)); !slices.Equal(got, want) {
		t.Errorf("Tokens(%q): %+v, want %+v", s, got, want)
	}
}

func TestTokensOfNothing(t *testing.T) {
	if got := Tokens(nil); len(got) != 0 {
		t.Errorf("Tokens(nil): %v", got)
	}
	checkTokens(t, "")
}

func TestTokensOfExample(t *testing.T) {
	checkTokens(t, "a{b:1.5em}", tok(api.Ident, "a"), tok(api.OpenCurly, ""), tok(api.Ident, "b"), tok(api.Colon, ""), broken(api.Dimension, "1.5", "em"), tok(api.CloseCurly, ""))
	checkTokens(t, "\"a\n", tok(api.BadString, ""), space)
}

func TestComments(t *testing.T) {
	checkTokens(t, "/**/")
	checkTokens(t, "/* a */b", tok(api.Ident, "b"))
	checkTokens(t, "/*/*/b", tok(api.Ident, "b"))
	checkTokens(t, "/*a**/b", tok(api.Ident, "b"))
	checkTokens(t, "/*\"*/b", tok(api.Ident, "b"))
	for _, s := range []string{"/*", "/*/", "/**", "/* a", "/* a *", "/*\\*"} {
		checkTokens(t, s)
	}
	checkTokens(t, "a/**/b", tok(api.Ident, "a"), tok(api.Ident, "b"))
	checkTokens(t, " /**/ ", space, space)
	checkTokens(t, "/", tok(api.Delim, "/"))
	checkTokens(t, "*/", tok(api.Delim, "*"), tok(api.Delim, "/"))
}

func TestSpace(t *testing.T) {
	checkTokens(t, " \t\n ", space)
	checkTokens(t, " a ", space, tok(api.Ident, "a"), space)
	// These two are ends of lines before text.Runes has read them, and no Blanks.
	checkTokens(t, "\r\f", tok(api.Delim, "\r"), tok(api.Delim, "\f"))
}

func TestStrings(t *testing.T) {
	for _, c := range []struct{ in, out string }{
		{`""`, ""}, {`''`, ""}, {`"a'b"`, "a'b"}, {`'a"b'`, `a"b`},
		{`"a`, "a"}, {`'`, ""}, {`"a\`, "a"}, {`"\`, ""},
		{`"\""`, `"`}, {`'\''`, "'"}, {`"\\"`, `\`}, {"\"a\\\nb\"", "ab"}, {"\"a\\\n", "a"},
		{`"\41 b"`, "Ab"}, {`"\41b"`, "\u041b"}, {`"\41"`, "A"}, {`"\41`, "A"}, {`"\41 `, "A"},
		{`"\0"`, "\ufffd"}, {`"/* */"`, "/* */"}, {"\"\x00\"", "\x00"}, {"\"\t\r\"", "\t\r"}, {`"\z"`, "z"},
	} {
		checkTokens(t, c.in, tok(api.String, c.out))
	}
	bad := tok(api.BadString, "")
	checkTokens(t, "'\n'", bad, space, tok(api.String, ""))
	checkTokens(t, "\"a\\41\n\n\"", bad, space, tok(api.String, ""))
	checkTokens(t, "\"a\"\n", tok(api.String, "a"), space)
}

func TestEscapesInNames(t *testing.T) {
	for _, c := range []struct{ in, out string }{
		{`\`, "\ufffd"}, {`a\`, "a\ufffd"}, {`-\`, "-\ufffd"}, {`\g`, "g"}, {`\(`, "("}, {`\\`, `\`}, {`\-`, "-"},
		{`\a`, "\n"}, {`\41`, "A"}, {`\041`, "A"}, {`\0041`, "A"}, {`\00041`, "A"}, {`\000041`, "A"}, {`\0000411`, "A1"},
		{`\41 b`, "Ab"}, {"\\41\tb", "Ab"}, {"\\41\nb", "Ab"}, {`\000041 b`, "Ab"}, {`\41g`, "Ag"},
		{`\fF`, "\u00ff"}, {`\0`, "\ufffd"}, {`\000000`, "\ufffd"}, {`\0 a`, "\ufffda"},
		{`\d7ff`, "\ud7ff"}, {`\d800`, "\ufffd"}, {`\dfff`, "\ufffd"}, {`\e000`, "\ue000"}, {`\D800`, "\ufffd"},
		{`\10ffff`, "\U0010ffff"}, {`\110000`, "\ufffd"}, {`\ffffff`, "\ufffd"}, {`\10ffffa`, "\U0010ffffa"},
		{"\\\x00", "\x00"}, {"\\\u00e9", "\u00e9"}, {`\ `, " "}, {`\"`, `"`},
	} {
		checkTokens(t, c.in, tok(api.Ident, c.out))
	}
	checkTokens(t, `\41  `, tok(api.Ident, "A"), space)
	checkTokens(t, "\\\n", tok(api.Delim, `\`), space)
	checkTokens(t, "a\\\n", tok(api.Ident, "a"), tok(api.Delim, `\`), space)
	checkTokens(t, "-\\\n", tok(api.Delim, "-"), tok(api.Delim, `\`), space)
}

func TestNames(t *testing.T) {
	for _, s := range []string{"a", "A", "_", "-a", "--", "---", "--1", "-_", "a-1_", "\u0080", "-\u00e9", "a\U0010ffff", "url", "--a"} {
		checkTokens(t, s, tok(api.Ident, s))
		checkTokens(t, "x"+s+"(", tok(api.Function, "x"+s))
		checkTokens(t, "@"+s, tok(api.At, s))
		checkTokens(t, "#"+s, id(s))
		checkTokens(t, "1"+s, whole(api.Dimension, "1", s))
	}
	checkTokens(t, "-", tok(api.Delim, "-"))
	checkTokens(t, "-.", tok(api.Delim, "-"), tok(api.Delim, "."))
	checkTokens(t, "-1", whole(api.Number, "-1", ""))
	checkTokens(t, "a (", tok(api.Ident, "a"), space, tok(api.OpenRound, ""))
	checkTokens(t, `a\(`, tok(api.Ident, "a("))
	checkTokens(t, "a/**/(", tok(api.Ident, "a"), tok(api.OpenRound, ""))
	checkTokens(t, "\x7f", tok(api.Delim, "\x7f"))
}

func TestHash(t *testing.T) {
	no := func(s string) api.Token { return tok(api.Hash, s) }
	checkTokens(t, "#1", no("1"))
	checkTokens(t, "#-", no("-"))
	checkTokens(t, "#-1", no("-1"))
	checkTokens(t, "#a1", id("a1"))
	checkTokens(t, `#\31 a`, id("1a"))
	checkTokens(t, `#-\31 `, id("-1"))
	checkTokens(t, `#\`, id("\ufffd"))
	checkTokens(t, "#-\\\n", no("-"), tok(api.Delim, `\`), space)
	checkTokens(t, "#\\\n", tok(api.Delim, "#"), tok(api.Delim, `\`), space)
	checkTokens(t, "#", tok(api.Delim, "#"))
	checkTokens(t, "# a", tok(api.Delim, "#"), space, tok(api.Ident, "a"))
	checkTokens(t, "##a", tok(api.Delim, "#"), id("a"))
	checkTokens(t, "#a(", id("a"), tok(api.OpenRound, ""))
}

func TestAt(t *testing.T) {
	at := tok(api.Delim, "@")
	checkTokens(t, `@\41`, tok(api.At, "A"))
	checkTokens(t, `@\`, tok(api.At, "\ufffd"))
	checkTokens(t, "@", at)
	checkTokens(t, "@-", at, tok(api.Delim, "-"))
	checkTokens(t, "@1", at, whole(api.Number, "1", ""))
	checkTokens(t, "@-1", at, whole(api.Number, "-1", ""))
	checkTokens(t, "@ a", at, space, tok(api.Ident, "a"))
	checkTokens(t, "@a(", tok(api.At, "a"), tok(api.OpenRound, ""))
}

func TestNumbers(t *testing.T) {
	for _, s := range []string{"0", "12", "+1", "-1", "-0", "007", strings.Repeat("9", 400)} {
		checkTokens(t, s, whole(api.Number, s, ""))
		checkTokens(t, s+"%", whole(api.Percent, s, ""))
		checkTokens(t, s+"px", whole(api.Dimension, s, "px"))
	}
	for _, s := range []string{"1.5", ".5", "+.5", "-.5", "1e3", "1E3", "1e+3", "1E-3", ".5e3", "-1.25e-10", "0.0", "0e0"} {
		checkTokens(t, s, broken(api.Number, s, ""))
		checkTokens(t, s+"%", broken(api.Percent, s, ""))
		checkTokens(t, s+"px", broken(api.Dimension, s, "px"))
	}
	dot := tok(api.Delim, ".")
	checkTokens(t, ".", dot)
	checkTokens(t, "1.", whole(api.Number, "1", ""), dot)
	checkTokens(t, "1.e3", whole(api.Number, "1", ""), dot, tok(api.Ident, "e3"))
	checkTokens(t, "1.5.5", broken(api.Number, "1.5", ""), broken(api.Number, ".5", ""))
	checkTokens(t, "1+1", whole(api.Number, "1", ""), whole(api.Number, "+1", ""))
	checkTokens(t, "+-1", tok(api.Delim, "+"), whole(api.Number, "-1", ""))
	checkTokens(t, "+a", tok(api.Delim, "+"), tok(api.Ident, "a"))
	checkTokens(t, "+.a", tok(api.Delim, "+"), dot, tok(api.Ident, "a"))
	checkTokens(t, "1 %", whole(api.Number, "1", ""), space, tok(api.Delim, "%"))
	checkTokens(t, "1%%", whole(api.Percent, "1", ""), tok(api.Delim, "%"))
	checkTokens(t, "1px%", whole(api.Dimension, "1", "px"), tok(api.Delim, "%"))
	checkTokens(t, "1px(", whole(api.Dimension, "1", "px"), tok(api.OpenRound, ""))
}

func TestUnits(t *testing.T) {
	for _, c := range []struct{ in, number, unit string }{
		{"1e", "1", "e"}, {"1em", "1", "em"}, {"1E", "1", "E"}, {"1e-", "1", "e-"}, {"1e-a", "1", "e-a"}, {`1\65 3`, "1", "e3"}, {`1\`, "1", "\ufffd"},
		{"1--", "1", "--"}, {"1-a", "1", "-a"}, {`1-\31 `, "1", "-1"}, {"1e\\+3", "1", "e+3"},
	} {
		checkTokens(t, c.in, whole(api.Dimension, c.number, c.unit))
	}
	checkTokens(t, "1e3e4", broken(api.Dimension, "1e3", "e4"))
	checkTokens(t, "1e3.5", broken(api.Number, "1e3", ""), broken(api.Number, ".5", ""))
	checkTokens(t, "1e+", whole(api.Dimension, "1", "e"), tok(api.Delim, "+"))
	checkTokens(t, "1e.5", whole(api.Dimension, "1", "e"), broken(api.Number, ".5", ""))
	checkTokens(t, "1e-.5", whole(api.Dimension, "1", "e-"), broken(api.Number, ".5", ""))
	checkTokens(t, "1-", whole(api.Number, "1", ""), tok(api.Delim, "-"))
	checkTokens(t, "1-2", whole(api.Number, "1", ""), whole(api.Number, "-2", ""))
	checkTokens(t, "1-->", whole(api.Dimension, "1", "--"), tok(api.Delim, ">"))
	checkTokens(t, "1\\\n", whole(api.Number, "1", ""), tok(api.Delim, `\`), space)
}

func TestMarkup(t *testing.T) {
	less, bang, dash, more := tok(api.Delim, "<"), tok(api.Delim, "!"), tok(api.Delim, "-"), tok(api.Delim, ">")
	checkTokens(t, "<!---->", tok(api.CDO, ""), tok(api.CDC, ""))
	checkTokens(t, "<!-", less, bang, dash)
	checkTokens(t, "<!-->", tok(api.CDO, ""), more)
	checkTokens(t, "->", dash, more)
	checkTokens(t, "--", tok(api.Ident, "--"))
	checkTokens(t, "--->", tok(api.Ident, "---"), more)
	checkTokens(t, "-->a", tok(api.CDC, ""), tok(api.Ident, "a"))
}

func TestURLs(t *testing.T) {
	for _, c := range []struct{ in, out string }{
		{"url()", ""}, {"url(", ""}, {"url(a)", "a"}, {"url(a", "a"}, {"URL(a)", "a"}, {"uRl(a)", "a"}, {`\75rl(a)`, "a"}, {`u\52 l(a)`, "a"},
		{"url( \t\n)", ""}, {"url( \t\n", ""}, {"url( a \n)", "a"}, {"url( a \n", "a"}, {"url(a#b?c=/*d*/)", "a#b?c=/*d*/"},
		{`url(\))`, ")"}, {`url(\29)`, ")"}, {`url(\29 )`, ")"}, {`url(\29  )`, ")"}, {`url(\"\'\()`, `"'(`}, {`url(\`, "\ufffd"}, {`url(a\`, "a\ufffd"}, {`url(\ a)`, " a"},
		{"url(a\x00\r\fb)", "a\x00\r\fb"}, {"url(\u0080\u00e9)", "\u0080\u00e9"}, {"url([{;}])", "[{;}]"}, {"url(\\7f)", "\x7f"}, {`url( \31  )`, "1"},
	} {
		checkTokens(t, c.in, tok(api.URL, c.out))
	}
	checkTokens(t, "url(a))", tok(api.URL, "a"), tok(api.CloseRound, ""))
	checkTokens(t, "url", tok(api.Ident, "url"))
	checkTokens(t, "url (a)", tok(api.Ident, "url"), space, tok(api.OpenRound, ""), tok(api.Ident, "a"), tok(api.CloseRound, ""))
	checkTokens(t, "urls(a)", tok(api.Function, "urls"), tok(api.Ident, "a"), tok(api.CloseRound, ""))
}

func TestURLsWithQuotes(t *testing.T) {
	f, a, end := tok(api.Function, "url"), tok(api.String, "a"), tok(api.CloseRound, "")
	checkTokens(t, `url("a")`, f, a, end)
	checkTokens(t, `url('a')`, f, a, end)
	checkTokens(t, "url( \t\n\"a\" )", f, space, a, space, end)
	checkTokens(t, "url( 'a')", f, space, a, end)
	checkTokens(t, `URL("a")`, tok(api.Function, "URL"), a, end)
	checkTokens(t, `url("`, f, tok(api.String, ""))
	checkTokens(t, "url(/**/\"a\")", tok(api.BadURL, ""))
}

func TestBadURLs(t *testing.T) {
	bad := tok(api.BadURL, "")
	for _, s := range []string{
		`url(a"b)`, `url(a'b)`, `url(a(b)`, `url(()`, "url(\\\n)", "url(a\\\n)", "url(a b)", "url(a \"b)", "url(a\nb", "url(a (", `url(a \)b)`,
		`url(a"b\)c)`, `url(a"b\29 c)`, `url(a"\`, `url(a"`, `url(a"\\)`, "url(a\"\\\n)", `url(a b"c)`, "url( a b )",
	} {
		checkTokens(t, s, bad)
		if strings.HasSuffix(s, ")") {
			checkTokens(t, s+")", bad, tok(api.CloseRound, ""))
			checkTokens(t, s+"a", bad, tok(api.Ident, "a"))
		}
	}
	checkTokens(t, `url(a"\29)b)`, bad, tok(api.Ident, "b"), tok(api.CloseRound, ""))
	for c := rune(0); c < 0x100; c++ {
		want := tok(api.URL, "a"+string(c)+"b")
		switch {
		case c >= 1 && c <= 8 || c == 0x0b || c >= 0x0e && c <= 0x1f || c == 0x7f || strings.ContainsRune("\"'( \t\n", c):
			want = bad
		case c == ')' || c == '\\':
			continue
		}
		checkTokens(t, "url(a"+string(c)+"b)", want)
	}
}

func TestSignsAndDelims(t *testing.T) {
	for i, s := range []string{":", ";", ",", "[", "]", "(", ")", "{", "}"} {
		checkTokens(t, s, api.Token{Kind: []int{16, 17, 18, 19, 20, 21, 22, 23, 24}[i]})
	}
	for c := rune(0); c < 0x80; c++ {
		if text.Part(c) && c != '-' || strings.ContainsRune(" \t\n\"'\\:;,[](){}", c) {
			continue
		}
		checkTokens(t, string(c), tok(api.Delim, string(c)))
	}
}

func TestRunesThatAreNoCharacters(t *testing.T) {
	odd := []rune{-1, -1 << 31, 0xd800, 0xdfff, 0x110000, 1<<31 - 1}
	for _, c := range odd {
		for _, ahead := range []string{"", "a", "\"", "#", "@", "1", "url(", "url(a", "url(a\"", "\\", "\"\\", "/*", "-", "a "} {
			for _, behind := range []string{"", "a", "\"", ")", "*/", "\n"} {
				Tokens(append(append([]rune(ahead), c), []rune(behind)...))
			}
		}
	}
	Tokens(odd)
}

func TestTokensKeepsAndChangesNothing(t *testing.T) {
	room := []rune(`a "b" #c 1d url(e) url("f") @g \68 --- room`)
	r := room[:len(room)-5]
	before := slices.Clone(room)
	got := Tokens(r)
	if !slices.Equal(room, before) {
		t.Error("Tokens has changed its argument or the room behind it")
	}
	want := slices.Clone(got)
	for i := range room {
		room[i] = 'X'
	}
	if !slices.Equal(got, want) {
		t.Error("Tokens has kept its argument")
	}
	again := Tokens(before[:len(r)])
	if !slices.Equal(again, want) {
		t.Error("Tokens does not answer the same again")
	}
	for i := range got[:cap(got)] {
		got[:cap(got)][i] = api.Token{}
	}
	if !slices.Equal(again, want) {
		t.Error("two answers share memory")
	}
}

func TestLongTexts(t *testing.T) {
	const many = 1 << 18
	for _, s := range []string{"/*", "\"", "url(", "url( ", "\\", "#", "1", ".", "-", " ", "(", "a", "url(a\"", "1e", "<!-", "@", "\"\\", "/", "*", "url(\\", "e+1", "\n"} {
		Tokens([]rune(strings.Repeat(s, many/len(s))))
		Tokens([]rune(s + strings.Repeat(" ", many)))
		Tokens([]rune(s + strings.Repeat("\\", many)))
	}
}

// The characters with which most of what the chapter names can be written.
const edges = "aeEf01+-.%\\ \n\"'#@()/*<!>url:\u00e9\x00\x01\x7f"

func TestTokensOfShortTexts(t *testing.T) {
	alphabet := []rune(edges)
	var s []rune
	var grow func(left int)
	grow = func(left int) {
		againstOracle(t, string(s))
		if left == 0 {
			return
		}
		for _, c := range alphabet {
			s = append(s, c)
			grow(left - 1)
			s = s[:len(s)-1]
		}
	}
	grow(3)
}

func TestTokensOfChanceTexts(t *testing.T) {
	chance := rand.New(rand.NewSource(2))
	pieces := []string{"url(", "url( ", "URL(\n", "/*", "*/", "<!--", "-->", "\\", "\\41 ", "\\110000", "\\d800\n", "\\\n", "1e+5", "1.5", ".5", "+", "-", "#", "@", ")", "(", "\"", "'", "\n", " ", "em", "%", "\x01", "\x00", "\u00e9", "a", "x-1", "_"}
	for range 60000 {
		var b strings.Builder
		for range 1 + chance.Intn(9) {
			b.WriteString(pieces[chance.Intn(len(pieces))])
		}
		againstOracle(t, b.String())
	}
}

func againstOracle(t *testing.T, s string) {
	t.Helper()
	got, want := Tokens([]rune(s)), oracle(s)
	if !slices.Equal(got, want) {
		t.Fatalf("Tokens(%q): %+v, want %+v", s, got, want)
	}
}
