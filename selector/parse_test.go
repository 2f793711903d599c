package selector

import (
	"math"
	"strings"
	"testing"

	"gouache/api"
)

// TestText is P5.1: what is read of texts, and what is none.
func TestText(t *testing.T) {
	for _, c := range []struct{ in, out string }{
		{"a#b > .c:not(d)", "T(a)I(b) 2 C(c)N[T(d)]"}, {":nth-child(odd)", "n(2,1)"}, {"a,,b", "none"},
		// Types.
		{"a", "T(a)"}, {"*", "T(*)"}, {"DIV", "T(div)"}, {"H1", "T(h1)"}, {"\u00c4B", "T(\u00c4b)"}, {"\\31 A", "T(1a)"}, {"\\*", "T(*)"}, {"--X", "T(--x)"},
		// A type behind another part.
		{".a*", "none"}, {"a*", "none"}, {"*a", "none"}, {"**", "none"}, {"a/**/b", "none"}, {"*/**/a", "none"}, {"#a/**/b", "none"}, {"[a]b", "none"}, {":root/**/b", "none"}, {":not(a)b", "none"}, {":nth-child(1)*", "none"},
		// Hashes and classes.
		{"#a", "I(a)"}, {"#A", "I(A)"}, {"#-a", "I(-a)"}, {"#\\31 ", "I(1)"}, {"#1", "none"}, {"#1a", "none"}, {"#-1", "none"}, {"a#1", "none"}, {"#", "none"}, {"#a#b", "I(a)I(b)"},
		{".a", "C(a)"}, {".A", "C(A)"}, {".a.b", "C(a)C(b)"}, {".", "none"}, {"..a", "none"}, {". a", "none"}, {".1", "none"}, {".*", "none"}, {".\"a\"", "none"}, {".a()", "none"}, {".#a", "none"}, {"./**/a", "C(a)"}, {"a./**/b", "T(a)C(b)"}, {"a .", "none"}, {".a.", "none"},
		// Compound ones.
		{"a#b.c[d]:root:empty", "T(a)I(b)C(c)A(d 0 )RE"}, {"*.a", "T(*)C(a)"}, {":root[a].b#c", "RA(a 0 )C(b)I(c)"}, {"a/**/.b", "T(a)C(b)"},
		// What is none of these.
		{"1", "none"}, {"a1%", "none"}, {"1%", "none"}, {"1em", "none"}, {"@a", "none"}, {"\"a\"", "none"}, {"\"a\n", "none"}, {"url(a)", "none"}, {"url(a b)", "none"}, {"f()", "none"}, {"(a)", "none"}, {"{a}", "none"}, {"a{}", "none"}, {"a)", "none"}, {"a]", "none"}, {"a}", "none"}, {"a;", "none"}, {"a!", "none"}, {"a|b", "none"}, {"a&b", "none"}, {"<!--", "none"}, {"a -->", "none"}, {"a <!-- b", "none"}, {"=", "none"}, {"a=b", "none"}, {"a~=b", "none"}, {"^a", "none"}, {"-", "none"},
		// Nothing at all.
		{"", "none"}, {" ", "none"}, {"/**/", "none"}, {" /**/ ", "none"},
	} {
		check(t, "Parse", c.in, read(values(c.in)), c.out)
		l, e := Text(c.in)
		if c.out == "none" && (e != api.ErrSyntax || len(l) != 0) || c.out != "none" && (e != api.OK || show(l) != c.out) {
			t.Errorf("Text of %q: %s, %v, want %s", c.in, show(l), e, c.out)
		}
	}
}

// TestSpaces: where they are left out, where they mean Descendant, where they may not be.
func TestSpaces(t *testing.T) {
	for _, c := range []struct{ in, out string }{
		// At the ends.
		{" a", "T(a)"}, {"a ", "T(a)"}, {" \t\n/**/ a /**/ ", "T(a)"}, {" a b ", "T(a) 1 T(b)"},
		// Between compound ones.
		{"a b", "T(a) 1 T(b)"}, {"a /**/ b", "T(a) 1 T(b)"}, {"a /**/b", "T(a) 1 T(b)"}, {"a/**/ b", "T(a) 1 T(b)"}, {"a\r\nb\fc", "T(a) 1 T(b) 1 T(c)"}, {"a .b", "T(a) 1 C(b)"}, {"a #b", "T(a) 1 I(b)"}, {"a [b]", "T(a) 1 A(b 0 )"}, {"a :root", "T(a) 1 R"}, {"a :not(b)", "T(a) 1 N[T(b)]"}, {"* *", "T(*) 1 T(*)"}, {"a *", "T(a) 1 T(*)"}, {".a b", "C(a) 1 T(b)"}, {"[a] b", "A(a 0 ) 1 T(b)"}, {":root b", "R 1 T(b)"}, {":not(a) b", "N[T(a)] 1 T(b)"},
		// Around signs.
		{"a>b", "T(a) 2 T(b)"}, {"a >b", "T(a) 2 T(b)"}, {"a> b", "T(a) 2 T(b)"}, {"a > b", "T(a) 2 T(b)"}, {"a /**/ > /**/ b", "T(a) 2 T(b)"}, {"a+b", "T(a) 3 T(b)"}, {"a + b", "T(a) 3 T(b)"}, {"a~b", "T(a) 4 T(b)"}, {"a ~ b", "T(a) 4 T(b)"}, {"a>b+c~d e", "T(a) 2 T(b) 3 T(c) 4 T(d) 1 T(e)"}, {"a>.b", "T(a) 2 C(b)"}, {"*>*", "T(*) 2 T(*)"}, {".a+#b", "C(a) 3 I(b)"},
		// Signs at the ends, or side by side.
		{">", "none"}, {"> a", "none"}, {">a", "none"}, {"+a", "none"}, {"~a", "none"}, {" ~ a", "none"}, {"a>", "none"}, {"a >", "none"}, {"a > ", "none"}, {"a+", "none"}, {"a~", "none"}, {"a>>b", "none"}, {"a > > b", "none"}, {"a+ +b", "none"}, {"a ~ ~ b", "none"}, {"a > + b", "none"}, {"a+~b", "none"}, {"a>/**/>b", "none"},
		// Around commas.
		{"a,b", "T(a) | T(b)"}, {"a ,b", "T(a) | T(b)"}, {"a, b", "T(a) | T(b)"}, {" a /**/ , /**/ b ", "T(a) | T(b)"}, {"a b,c>d , e", "T(a) 1 T(b) | T(c) 2 T(d) | T(e)"}, {"a,a", "T(a) | T(a)"},
		// Commas at the ends, or side by side.
		{",", "none"}, {",a", "none"}, {" , a", "none"}, {"a,", "none"}, {"a , ", "none"}, {"a,,b", "none"}, {"a, ,b", "none"}, {"a,/**/,b", "none"}, {"a>,b", "none"}, {"a,>b", "none"}, {"a > , b", "none"}, {"a , + b", "none"},
		// Within compound ones.
		{". a", "none"}, {"a. b", "none"}, {": root", "none"}, {"a: root", "none"}, {": not(a)", "none"}, {": nth-child(1)", "none"}, {"# a", "none"},
		// Within functions.
		{":not( a )", "N[T(a)]"}, {":is( a , b )", "S[T(a) | T(b)]"}, {":where(\n/**/ a b /**/ )", "W[T(a) 1 T(b)]"}, {":nth-child( 2n + 1 )", "n(2,1)"}, {":nth-last-child( odd )", "l(2,1)"}, {":not ( a )", "none"},
		{"a b , ", "none"}, {"a  , b", "T(a) | T(b)"},
	} {
		check(t, "Parse", c.in, read(values(c.in)), c.out)
	}
}

func TestAttributes(t *testing.T) {
	for _, c := range []struct{ in, out string }{
		{"[a]", "A(a 0 )"}, {"[ a ]", "A(a 0 )"}, {"[/**/ a /**/ ]", "A(a 0 )"}, {"[DATA-X]", "A(data-x 0 )"}, {"[\\31 A]", "A(1a 0 )"}, {"[\\*]", "A(* 0 )"}, {"[a", "A(a 0 )"}, {"x[a][b]", "T(x)A(a 0 )A(b 0 )"},
		{"[a=b]", "A(a 1 b)"}, {"[a~=b]", "A(a 2 b)"}, {"[a|=b]", "A(a 3 b)"}, {"[a^=b]", "A(a 4 b)"}, {"[a$=b]", "A(a 5 b)"}, {"[a*=b]", "A(a 6 b)"},
		{"[a=\"b c\"]", "A(a 1 b c)"}, {"[a~='b']", "A(a 2 b)"}, {"[a|=\"\"]", "A(a 3 )"}, {"[a^=\"b\"]", "A(a 4 b)"}, {"[a$=\"b\"]", "A(a 5 b)"}, {"[a*=\"b", "A(a 6 b)"},
		{"[A=B]", "A(a 1 B)"}, {"[A=\"B\"]", "A(a 1 B)"}, {"[a=\\31 ]", "A(a 1 1)"}, {"[a=\"\\a\"]", "A(a 1 \n)"},
		{"[ a = b ]", "A(a 1 b)"}, {"[ a /**/ ~= /**/ 'b' /**/ ]", "A(a 2 b)"}, {"[a =b]", "A(a 1 b)"}, {"[a= b]", "A(a 1 b)"}, {"[a *=b]", "A(a 6 b)"}, {"[a*= b]", "A(a 6 b)"}, {"[a~/**/=b]", "A(a 2 b)"},
		// Something between the two Delims.
		{"[a~ =b]", "none"}, {"[a| =b]", "none"}, {"[a^ =b]", "none"}, {"[a$ =b]", "none"}, {"[a* =b]", "none"}, {"[a*b=c]", "none"}, {"[a~~=b]", "none"}, {"[a|^=b]", "none"}, {"[a*\"\"=b]", "none"},
		// Operators that are none, or that are not whole.
		{"[a==b]", "none"}, {"[a>=b]", "none"}, {"[a!=b]", "none"}, {"[a.=b]", "none"}, {"[a~b]", "none"}, {"[a|b]", "none"}, {"[a*]", "none"}, {"[a~]", "none"}, {"[a=~b]", "none"}, {"[a:b]", "none"},
		// Without a name, without a value, or with another one.
		{"[]", "none"}, {"[ ]", "none"}, {"[=b]", "none"}, {"[\"a\"]", "none"}, {"[\"a\"=b]", "none"}, {"[1]", "none"}, {"[*]", "none"}, {"[#a]", "none"}, {"[.a]", "none"}, {"[a()]", "none"}, {"[[a]]", "none"}, {"[*|a]", "none"}, {"[|a]", "none"},
		{"[a=]", "none"}, {"[a= ]", "none"}, {"[a~=]", "none"}, {"[a=1]", "none"}, {"[a=1em]", "none"}, {"[a=#b]", "none"}, {"[a=*]", "none"}, {"[a=b()]", "none"}, {"[a=(b)]", "none"}, {"[a=\"b\n]", "none"}, {"[a=url(b)]", "none"}, {"[a \"b\"]", "none"}, {"[a b]", "none"},
		// Something more.
		{"[a=b c]", "none"}, {"[a=b i]", "none"}, {"[a=\"b\" i]", "none"}, {"[a=b\"c\"]", "none"}, {"[a=b,c]", "none"}, {"[a,b]", "none"}, {"[a=b=c]", "none"}, {"[a=b] c", "A(a 1 b) 1 T(c)"}, {"[a]]", "none"},
		// Another block.
		{"(a)", "none"}, {"{a}", "none"}, {"x(a)", "none"}, {"x{a}", "none"},
	} {
		check(t, "Parse", c.in, read(values(c.in)), c.out)
	}
}

func TestColons(t *testing.T) {
	for _, c := range []struct{ in, out string }{
		{"root", "R"}, {"empty", "E"}, {"first-child", "n(0,1)"}, {"last-child", "l(0,1)"}, {"only-child", "n(0,1)l(0,1)"},
		{"nth-child(3)", "n(0,3)"}, {"nth-last-child(3)", "l(0,3)"}, {"not(a)", "N[T(a)]"}, {"is(a)", "S[T(a)]"}, {"where(a)", "W[T(a)]"},
	} {
		capital := strings.ToUpper(c.in[:1]) + c.in[1:]
		all := strings.ToUpper(c.in)
		escaped := "\\" + "0000" + map[byte]string{'r': "72", 'e': "65", 'f': "66", 'l': "6c", 'o': "6f", 'n': "6e", 'i': "69", 'w': "77"}[c.in[0]] + c.in[1:]
		for _, in := range []string{c.in, capital, all, escaped} {
			check(t, "Parse", in, read(values(":"+in)), c.out)
			check(t, "Parse", in, read(values("x:"+in+".y")), "T(x)"+c.out+"C(y)")
			check(t, "Parse", in, read(values("x :"+in+" y")), "T(x) 1 "+c.out+" 1 T(y)")
			for _, wrong := range []string{"::" + in, ":", "a:", ": " + in, ":/**/:" + in, ":\"" + in + "\"", ":#" + in, ":@" + in, ":x" + in, ":-" + in, "." + in + "()", ":" + in + ":"} {
				check(t, "Parse", wrong, read(values(wrong)), "none")
			}
			// The comment is nothing, so the name stands directly behind.
			check(t, "Parse", in, read(values(":/**/"+in)), c.out)
		}
	}
	for _, in := range []string{":roots", ":roo", ":r", ":hover", ":first", ":nth", ":child", ":first_child", ":nth-child", ":nth-last-child", ":not", ":is", ":where", ":any", ":root()", ":empty()", ":first-child()", ":last-child(1)", ":only-child()", ":has(a)", ":nots(a)", ":matches(a)", ":nth-of-type(1)", ":first-of-type", ":1", ":", ":*", ":(a)", ":[a]", ":\u212aroot", ":\u0130s(a)", ":\\*", "root:", ":only-child*"} {
		check(t, "Parse", in, read(values(in)), "none")
	}
}

// TestPlaces: each form that nth reads, and none.
func TestPlaces(t *testing.T) {
	for _, c := range []struct{ in, out string }{
		{"even", "(2,0)"}, {"ODD", "(2,1)"}, {"5", "(0,5)"}, {"+5", "(0,5)"}, {"-5", "(0,-5)"}, {"n", "(1,0)"}, {"-n", "(-1,0)"}, {"+n", "(1,0)"}, {"3n", "(3,0)"}, {"2n+1", "(2,1)"}, {"2N-1", "(2,-1)"}, {"-n + 3", "(-1,3)"}, {" 2n + 1 ", "(2,1)"}, {"0n+0", "(0,0)"}, {"99999999999999999999", "(0,1000000)"}, {"-99999999999999999999n-99999999999999999999", "(-1000000,-1000000)"},
		{"", "none"}, {" ", "none"}, {"a", "none"}, {"2n+", "none"}, {"2 n", "none"}, {"2.0", "none"}, {"1 2", "none"}, {"2n+1 of a", "none"}, {"1,2", "none"}, {"(1)", "none"}, {"\"1\"", "none"}, {"1%", "none"}, {"*", "none"}, {"#n", "none"},
	} {
		for name, letter := range map[string]string{":nth-child(": "n", ":nth-last-child(": "l"} {
			want := letter + c.out
			if c.out == "none" {
				want = "none"
			}
			check(t, "Parse", name+c.in, read(values(name+c.in+")")), want)
		}
	}
}

func TestLists(t *testing.T) {
	for _, c := range []struct{ in, out string }{
		{"a", "[T(a)]"}, {"a,b", "[T(a) | T(b)]"}, {"a b > c, *", "[T(a) 1 T(b) 2 T(c) | T(*)]"}, {":not(a)", "[N[T(a)]]"}, {":is(:where(a,b),:not(c)) d, e:is(f)", "[S[W[T(a) | T(b)] | N[T(c)]] 1 T(d) | T(e)S[T(f)]]"}, {":root:empty", "[RE]"}, {"[a=b]:nth-child(2)", "[A(a 1 b)n(0,2)]"}, {"a.b#c", "[T(a)C(b)I(c)]"}, {":not(a):is(b):where(c):not(d)", "[N[T(a)]S[T(b)]W[T(c)]N[T(d)]]"},
		{"", "none"}, {" ", "none"}, {"a,", "none"}, {",a", "none"}, {"a,,b", "none"}, {">a", "none"}, {"a>", "none"}, {"1", "none"}, {"(a)", "none"}, {":not()", "none"}, {"a, :is(b,)", "none"}, {":is(:where(:not( )))", "none"}, {":not(a),:not(,)", "none"}, {":not(.),:not(a)", "none"},
	} {
		for name, letter := range map[string]string{":not(": "N", ":is(": "S", ":where(": "W"} {
			want := letter + c.out
			if c.out == "none" {
				want = "none"
			}
			check(t, "Parse", name+c.in, read(values(name+c.in+")")), want)
			if c.out != "none" {
				want = "T(x) | C(y)" + want + " 2 " + want
			}
			check(t, "Parse", name+c.in, read(values("x, .y"+name+c.in+")>"+name+c.in)), want)
		}
	}
}

// TestTextLimits: ErrText ahead of ErrSyntax, by bytes.
func TestTextLimits(t *testing.T) {
	for _, c := range []struct {
		in   string
		want api.Errno
	}{
		{strings.Repeat("a", api.MaxText), api.OK}, {strings.Repeat("a", api.MaxText+1), api.ErrText},
		{strings.Repeat(" ", api.MaxText-1) + "a", api.OK}, {strings.Repeat(" ", api.MaxText) + "a", api.ErrText},
		{strings.Repeat(",", api.MaxText), api.ErrSyntax}, {strings.Repeat(",", api.MaxText+1), api.ErrText},
		{strings.Repeat("\u00e9", api.MaxText/2), api.OK}, {strings.Repeat("\u00e9", api.MaxText/2) + "a", api.ErrText},
		{strings.Repeat("\r\n", api.MaxText/2-1) + "ab", api.OK}, {strings.Repeat("\r\n", api.MaxText/2) + "a", api.ErrText},
		{strings.Repeat("a,", api.MaxText/2-1) + "ab", api.OK}, {strings.Repeat("a,", api.MaxText/2), api.ErrSyntax},
		{"/*" + strings.Repeat("*", api.MaxText), api.ErrText}, {strings.Repeat("\xff", api.MaxText), api.OK}, {strings.Repeat("\x00", api.MaxText+1), api.ErrText},
		{strings.Repeat(":not(", api.MaxText/5), api.ErrSyntax}, {strings.Repeat("[", api.MaxText), api.ErrSyntax}, {strings.Repeat(".a", api.MaxText/2), api.OK},
	} {
		l, e := Text(c.in)
		if e != c.want || (e == api.OK) != (len(l) > 0) {
			t.Errorf("Text of %d bytes, %q ..: %v, of %d selectors, want %v", len(c.in), c.in[:8], e, len(l), c.want)
		}
	}
	if l := must(t, strings.Repeat("a,", api.MaxText/2-1)+"ab"); len(l) != api.MaxText/2 || show(l[len(l)-1:]) != "T(ab)" {
		t.Errorf("Text of a long list: %d selectors", len(l))
	}
	if l := must(t, strings.Repeat("a>", api.MaxText/2-1)+"ab"); len(l) != 1 || len(l[0].Parts) != api.MaxText/2 || len(l[0].Combs) != api.MaxText/2-1 {
		t.Errorf("Text of a long selector: %d selectors", len(l))
	}
}

// TestOddTexts: U+0000, and bytes that are no characters, are U+FFFD in texts.
func TestOddTexts(t *testing.T) {
	for _, c := range []struct{ in, out string }{
		{"a\x00", "T(a\ufffd)"}, {"\x00", "T(\ufffd)"}, {"\xff", "T(\ufffd)"}, {"#\xc0\x80", "I(\ufffd\ufffd)"}, {".\xed\xa0\x80a", "C(\ufffd\ufffd\ufffda)"}, {"[a=\"\x00\xfe\"]", "A(a 1 \ufffd\ufffd)"}, {"\\0 ", "T(\ufffd)"}, {"\\", "T(\ufffd)"}, {".\\d800 b", "C(\ufffdb)"}, {":root\x00", "none"}, {"a\x80b", "T(a\ufffdb)"}, {"\u0080", "T(\u0080)"}, {"\U0010ffff", "T(\U0010ffff)"}, {"a\x01", "none"}, {"\x7f", "none"},
	} {
		l, e := Text(c.in)
		if got := show(l); c.out == "none" && e != api.ErrSyntax || c.out != "none" && (got != c.out || e != api.OK || !Good(l)) {
			t.Errorf("Text of %q: %s, %v, want %s", c.in, got, e, c.out)
		}
	}
}

// TestNests: Text reads what parse's Values tells, so that what would be nested deeper than MaxNest is not there.
func TestNests(t *testing.T) {
	not := func(deep int, in string) string { return strings.Repeat(":not(", deep) + in }
	for deep := 1; deep <= api.MaxNest; deep++ {
		want := strings.Repeat("N[", deep) + "T(a)" + strings.Repeat("]", deep)
		if got := show(must(t, not(deep, "a"))); got != want {
			t.Fatalf("Text nested %d deep: %s", deep, got)
		}
	}
	if _, e := Text(not(api.MaxNest+1, "a")); e != api.ErrSyntax {
		t.Errorf("Text nested deeper than MaxNest: %v", e)
	}
	// The block of the attribute is left out, and all that is in it.
	if got := show(must(t, not(api.MaxNest, "a[b]"))); !strings.HasSuffix(strings.TrimRight(got, "]"), "N[T(a)") {
		t.Errorf("Text of an attribute nested deeper than MaxNest: %s", got)
	}
	if got := show(must(t, not(api.MaxNest-1, "a[b]"))); !strings.HasSuffix(strings.TrimRight(got, "]"), "N[T(a)A(b 0 )") {
		t.Errorf("Text of an attribute nested MaxNest deep: %s", got)
	}
}

// TestOddValues: lists that no text has.
func TestOddValues(t *testing.T) {
	tok := func(kind int, s string) api.Value { return api.Value{Token: api.Token{Kind: kind, Text: s}} }
	list := func(l ...api.Value) []api.Value { return l }
	fun := func(s string, kids ...api.Value) []api.Value {
		return list(tok(api.Colon, ""), api.Value{Token: api.Token{Kind: api.Function, Text: s}, Kids: kids})
	}
	square := func(kids ...api.Value) []api.Value {
		return list(api.Value{Token: api.Token{Kind: api.OpenSquare}, Kids: kids})
	}
	a, space, eq := tok(api.Ident, "a"), tok(api.Space, ""), tok(api.Delim, "=")
	for i, c := range []struct {
		in  []api.Value
		out string
	}{
		{nil, "none"}, {list(), "none"}, {list(api.Value{}), "none"}, {list(a, api.Value{}), "none"}, {list(a, space, api.Value{}), "none"},
		{list(a, space, space, space, a, space, space), "T(a) 1 T(a)"}, {list(space, space, a), "T(a)"},
		// Texts that no token has are names as they are; Good says that they are none.
		{list(tok(api.Ident, "")), "T()"}, {list(tok(api.Delim, "."), tok(api.Ident, "")), "C()"}, {list(api.Value{Token: api.Token{Kind: api.Hash, Flag: true}}), "I()"}, {list(tok(api.Ident, "A\x00\xff")), "T(a\x00\xff)"}, {square(tok(api.Ident, "")), "A( 0 )"},
		// Delims of nothing, or of more than one character.
		{list(a, tok(api.Delim, ""), a), "none"}, {list(a, tok(api.Delim, " "), a), "none"}, {list(a, tok(api.Delim, ">>"), a), "none"}, {list(a, tok(api.Delim, "not"), a), "none"}, {list(tok(api.Delim, "")), "none"}, {list(tok(api.Delim, "*a")), "none"}, {list(tok(api.Delim, ".a"), a), "none"},
		{square(a, tok(api.Delim, "~="), a), "none"}, {square(a, tok(api.Delim, ""), eq, a), "none"}, {square(a, tok(api.Delim, "=="), a), "none"}, {square(a, tok(api.Delim, ">"), eq, a), "none"}, {square(a, tok(api.Delim, "^"), eq, a), "A(a 4 a)"},
		// Names of kinds that a name, or a function, does not mean; a name of nothing.
		{list(tok(api.Colon, ""), tok(api.Ident, "")), "none"}, {list(tok(api.Colon, ""), tok(api.Ident, "not")), "none"}, {list(tok(api.Colon, ""), tok(api.Ident, ">")), "none"}, {fun(""), "none"}, {fun("", a), "none"}, {fun("root"), "none"}, {fun("~", a), "none"}, {fun("not", a), "N[T(a)]"}, {fun("IS", space, a, space), "S[T(a)]"}, {fun("not", fun("not")...), "none"},
		// Closes, and blocks of other kinds.
		{list(a, tok(api.CloseSquare, "")), "none"}, {list(tok(api.OpenRound, "")), "none"}, {list(tok(api.CloseRound, "a")), "none"}, {list(tok(api.Function, "a")), "none"},
		// Signs that are of other kinds.
		{list(a, tok(api.Ident, ">"), a), "none"}, {list(a, tok(api.String, ">"), a), "none"}, {list(tok(api.Ident, "."), a), "none"}, {list(tok(api.Ident, "*")), "T(*)"}, {list(tok(api.String, "*")), "none"}, {list(a, tok(api.Delim, ","), a), "none"}, {list(tok(api.Delim, ":"), tok(api.Ident, "root")), "none"},
		{square(a, tok(api.Ident, "="), a), "none"}, {square(a, tok(api.Delim, "~"), tok(api.Ident, "="), a), "none"}, {square(a, tok(api.String, "~"), eq, a), "none"},
	} {
		if got := read(c.in); got != c.out {
			t.Errorf("Parse of list %d, %+v: %q, want %q", i, c.in, got, c.out)
		}
	}
	for _, kind := range []int{math.MinInt, -1, 0, 25, 1 << 32, 1<<32 + api.Ident, math.MaxInt} {
		odd := tok(kind, "*")
		for _, l := range [][]api.Value{{odd}, {a, odd}, {a, odd, a}, {a, space, odd}, {odd, a}, square(odd), square(a, odd), square(a, odd, eq, a), square(a, eq, odd), fun("not", odd), fun("nth-child", odd), {tok(api.Colon, ""), odd}, {tok(api.Delim, "."), odd}} {
			if got := read(l); got != "none" {
				t.Errorf("Parse with kind %d, %+v: %q", kind, l, got)
			}
		}
	}
}

// TestWhatAKindDoesNotName is R7: Kids of what has none, and other fields, are not looked at.
func TestWhatAKindDoesNotName(t *testing.T) {
	var fill func(l []api.Value) []api.Value
	fill = func(l []api.Value) []api.Value {
		out := make([]api.Value, len(l))
		for i, v := range l {
			kids := fill(v.Kids)
			if k := v.Token.Kind; k != api.OpenSquare && k != api.Function {
				kids = values("1 2,,")
			}
			if k := v.Token.Kind; k == api.Space || k == api.Colon || k == api.Comma || k == api.OpenSquare {
				v.Token.Text = "t"
			}
			if v.Token.Kind != api.Dimension {
				v.Token.Unit = "u"
			}
			if v.Token.Kind != api.Hash {
				v.Token.Flag = true
			}
			if k := v.Token.Kind; k != api.Number && k != api.Dimension {
				v.Token.Whole = true
			}
			out[i] = api.Value{Token: v.Token, Kids: kids}
		}
		return out
	}
	for _, s := range []string{"a", "*", "#a", "#1", ".a", " a > .b , c + d ~ e f ", "[a]", "[ a ~= b ]", "[a='b']", ":root", ":only-child", ":nth-child(2n + 1)", ":nth-child(5)", ":nth-child(-n)", ":not( a , b c )", "a,,b", "1", ":is(:where([a=b],:empty))"} {
		check(t, "Parse", s, read(fill(values(s))), read(values(s)))
	}
}

// TestDeepValues: values nested deeper than any text's are read, too.
func TestDeepValues(t *testing.T) {
	const deep = 1 << 18
	nest := func(inmost []api.Value) []api.Value {
		l := inmost
		for range deep {
			l = []api.Value{{Token: api.Token{Kind: api.Colon}}, {Token: api.Token{Kind: api.Function, Text: "is"}, Kids: l}}
		}
		return l
	}
	l, ok := Parse(nest(values("#a")))
	if !ok || Of(l[0]) != (api.Spec{A: 1}) || !Same(l, nested(deep+1, api.Is, one(api.Simple{Kind: api.ID, Name: "a"}))) {
		t.Errorf("Parse of values nested %d deep: %v", deep, ok)
	}
	if l, ok := Parse(nest(nil)); ok || len(l) > 0 {
		t.Errorf("Parse of values nested %d deep, with nothing in them", deep)
	}
	square := values("[a]")
	for range deep {
		square = []api.Value{{Token: api.Token{Kind: api.OpenSquare}, Kids: square}}
	}
	if _, ok := Parse(square); ok {
		t.Errorf("Parse of squares nested %d deep", deep)
	}
}
