package parse

import (
	"math"
	"slices"
	"testing"

	"gouache/api"
)

func TestRules(t *testing.T) {
	for _, c := range []struct{ in, out string }{
		{"a b{c:d!important;e} @x y; f{}", "a b => c:d!important;e | f => "},
		{"a{b}", "a => b"}, {"a {b} ", "a  => b"}, {" a{ b }c{}", "a =>  b  | c => "}, {"a{}b{}c{}", "a =>  | b =>  | c => "},
		{"a{b{c}d}", "a => b{<c>d"}, {"a{b", "a => b"}, {"a[b]f(c) d{e}", "a[<b>f(<c> d => e"},
		// A block of OpenCurly within another one is not the next one.
		{"a({b})c{d}", "a(<{<b>>c => d"}, {"f({){a}", ""}, {"[{a}]", ""},
		// A Prelude of nothing.
		{"{}", " => "}, {"{a}", " => a"}, {" {a} {b}", " => a |  => b"}, {"a{b}{c}", "a => b |  => c"},
		// Space, CDO and CDC are left out ahead of a rule, not within one.
		{"<!--a{}-->b{}", "a =>  | b => "}, {" <!-- --> /**/ a{} --> <!--", "a => "}, {"<!--{}", " => "}, {"a <!-- b --> {}", "a <!-- b -->  => "}, {"a{<!-- b-->}", "a => <!-- b-->"},
		// An At up to a Semicolon.
		{"@x;", ""}, {"@x;a{}", "a => "}, {"@x y z;a{}", "a => "}, {"@x (;{a}) [;];a{}", "a => "}, {"@x f(;{a});a{}", "a => "}, {"@x;@y;a{}@z;", "a => "}, {"@x;;a{}", ";a => "}, {"@x :,\"\" }a;b{}", "b => "},
		// An At up to a block of OpenCurly.
		{"@x{a{}}b{}", "b => "}, {"@x y{a{}}b{}", "b => "}, {"@x{};a{}", ";a => "}, {"@x{}{}", " => "}, {"@x @y{}a{}", "a => "}, {"@x ({};){}a{}", "a => "}, {"@x y{a;}b{}", "b => "},
		// An At up to the end.
		{"@x", ""}, {"@x a", ""}, {"a{}@x", "a => "}, {"a{}@x (b{}) ", "a => "}, {"@x{", ""}, {"@x({", ""},
		// An At, and a Semicolon, that are not the first of a rule.
		{"a @x;{b}c{}", "a @x; => b | c => "}, {"a;b{}", "a;b => "}, {";{}", "; => "}, {"a @x{b}", "a @x => b"},
		// What has no block.
		{"", ""}, {" ", ""}, {"a", ""}, {"a;b", ""}, {"a{}b", "a => "}, {"a{}b @x;", "a => "}, {"(a{b})", ""}, {"a}", ""}, {"a{}}b{}", "a =>  | }b => "}, {")]{}", ")] => "},
	} {
		check(t, "Rules", c.in, showBlocks(Rules(Values(cut(c.in)))), c.out)
	}
}

func TestDecls(t *testing.T) {
	for _, c := range []struct{ in, out string }{
		{"c:d!important;e", "c =! d"},
		{"a:b", "a = b"}, {"a:b;", "a = b"}, {" a : b ; c : d ", "a = b | c = d"}, {"a:b c", "a = b c"}, {"a:b;a:c", "a = b | a = c"}, {";;a:b;;", "a = b"}, {" ; ; a:b", "a = b"},
		{"a:f(b;c) [;] {d;e};g:h", "a = f(<b;c> [<;> {<d;e> | g = h"}, {"a:b:c,d", "a = b:c,d"}, {"a:b}c", "a = b}c"}, {"a:{b}c:d", "a = {<b>c:d"}, {"a:<!-- -->", "a = <!-- -->"},
		// Names.
		{"COLOR:RED", "color = RED"}, {"Font-Size:A", "font-size = A"}, {"--X:a", "--x = a"}, {"\\31 A:b", "1a = b"}, {"\u00c4B:c", "\u00c4b = c"},
		// Without a Value.
		{"a:", "a = "}, {"a:;", "a = "}, {"a: ;b:c", "a =  | b = c"}, {"a :", "a = "}, {"a: /**/ ;", "a = "},
		// Spaces ahead of the Colon.
		{"a :b", "a = b"}, {"a /**/ /**/ :b", "a = b"}, {"a\n\t: /**/ b /**/ ", "a = b"},
		// What is no declaration.
		{"", ""}, {" ", ""}, {";", ""}, {"a", ""}, {"a b:c", ""}, {"a b", ""}, {":a", ""}, {"1:a", ""}, {"#a:b", ""}, {"\"a\":b", ""}, {"f():a", ""}, {"(a):b", ""}, {"{a:b}", ""}, {"{}a:b;c:d", "c = d"}, {"a!:b", ""}, {"a;:b", ""}, {"a,b:c", ""}, {"!a:b", ""}, {"a{}:b", ""}, {"e;f:g", "f = g"}, {"*a:b;c:d", "c = d"}, {"<!--a:b", ""},
		// An At up to a Semicolon, up to a block of OpenCurly, up to the end.
		{"@x;a:b", "a = b"}, {"@x a:b;c:d", "c = d"}, {"@x{a:b}c:d", "c = d"}, {"@x y {a:b} c:d", "c = d"}, {"@x (;) {}a:b", "a = b"}, {"@x ({a});b:c", "b = c"}, {"@x", ""}, {"@x a:b", ""}, {"a:b;@x", "a = b"}, {"@x;@y{}@z;a:b", "a = b"}, {"@x{};a:b", "a = b"},
		// An At that is not the first.
		{"a:@x;b:c", "a = @x | b = c"}, {"a:@x{b;c}d;e:f", "a = @x{<b;c>d | e = f"}, {"a @x:b;c:d", "c = d"},
	} {
		check(t, "Decls", c.in, showDecls(Decls(Values(cut(c.in)))), c.out)
	}
}

func TestImportant(t *testing.T) {
	for _, c := range []struct{ in, out string }{
		{"a:b!important", "a =! b"}, {"a:b !important", "a =! b"}, {"a:b! important", "a =! b"}, {"a:b ! important ;", "a =! b"}, {"a:b /**/ ! /**/ /**/ important /**/ ", "a =! b"}, {"a:b c!important;d:e", "a =! b c | d = e"},
		// In small and capital letters.
		{"a:b!IMPORTANT", "a =! b"}, {"a:b!ImporTant", "a =! b"}, {"a:b!\\69mportant", "a =! b"}, {"a:b!\\49MPORTANT", "a =! b"}, {"a:b! IMPORTANT", "a =! b"},
		// A Value of nothing but that.
		{"a:!important", "a =! "}, {"a: !important", "a =! "}, {"a : ! important ;", "a =! "}, {"a:!IMPORTANT;b:c", "a =!  | b = c"},
		// It is taken away once.
		{"a:b!important!important", "a =! b!important"}, {"a:b !important !important", "a =! b !important"}, {"a:!important!important", "a =! !important"}, {"a:!!important", "a =! !"}, {"a:! !important", "a =! !"},
		// It is not there, or not at the end.
		{"a:important", "a = important"}, {"a:b important", "a = b important"}, {"a: important!", "a = important!"}, {"a:!", "a = !"}, {"a:b!", "a = b!"}, {"a:b!important c", "a = b!important c"}, {"a:!important,", "a = !important,"}, {"a:b!importan", "a = b!importan"}, {"a:b!importants", "a = b!importants"}, {"a:b!\"important\"", "a = b!\"important\""}, {"a:b!important()", "a = b!important(<>"}, {"a:b!#important", "a = b!#important"}, {"a:b?important", "a = b?important"}, {"a:b\\!important", "a = b\\!important"}, {"a:b\"!\"important", "a = b\"!\"important"}, {"a:b \\! important", "a = b \\! important"}, {"a:#\\! important", "a = #\\! important"}, {"a:(b!important)", "a = (<b!important>"}, {"a:b!(important)", "a = b!(<important>"}, {"a:b!\u0131mportant", "a = b!\u0131mportant"}, {"a:b!;important", "a = b!"}, {"a:b!,important", "a = b!,important"},
		{"a!important", ""}, {"a!important:b", ""}, {"important:!important", "important =! "}, {"a:b;!important", "a = b"},
	} {
		check(t, "Decls", c.in, showDecls(Decls(Values(cut(c.in)))), c.out)
	}
}

func TestTrim(t *testing.T) {
	for _, c := range []struct{ in, out string }{
		{"", ""}, {" ", ""}, {" /**/ /**/ ", ""}, {"a", "a"}, {" a", "a"}, {"a ", "a"}, {" a ", "a"}, {" /**/ a /**/ b /**/ ", "a  b"}, {" ( a ) ", "(< a >"}, {" ;", ";"}, {"<!-- ", "<!--"}, {"( ", "(< >"},
	} {
		check(t, "Trim", c.in, show(Trim(Values(cut(c.in)))), c.out)
	}
}

// TestAgainstOracle goes over all lists of up to four values of kinds that matter, and of up to six of fewer kinds.
func TestAgainstOracle(t *testing.T) {
	rules := func(s string) {
		if got, want := Rules(spelled(s)), oracleRules(s); whole(got) != whole(want) {
			t.Fatalf("Rules of %q: %+v, want %+v", s, got, want)
		}
	}
	decls := func(s string) {
		if got, want := Decls(spelled(s)), oracleDecls(s); whole(got) != whole(want) {
			t.Fatalf("Decls of %q: %+v, want %+v", s, got, want)
		}
	}
	trim := func(s string) {
		if got, want := Trim(spelled(s)), oracleTrim(s); whole(got) != whole(want) {
			t.Fatalf("Trim of %q: %+v, want %+v", s, got, want)
		}
	}
	eachSpelling("iks@:;!?{(}oc", 4, func(s string) {
		rules(s)
		decls(s)
	})
	eachSpelling("is@;{o", 6, rules)
	eachSpelling("is@;{:", 6, decls)
	eachSpelling("s!k:;i", 4, func(s string) { decls("i:" + s) })
	eachSpelling("s!ki", 6, func(s string) { decls("is:" + s + ";i:!k") })
	eachSpelling("is(", 6, trim)
}

// TestKidsOfWhatIsNoBlock: nobody looks into them, and they are not taken away.
func TestKidsOfWhatIsNoBlock(t *testing.T) {
	give := func(s string) []api.Value {
		l := Values(cut(s))
		for i := range l {
			l[i].Kids = append(l[i].Kids, Values(cut(";{}!"))...)
		}
		return l
	}
	const kids = "<;{<>!>"
	check(t, "Rules", "with Kids", showBlocks(Rules(give(" a @b;{c}@d;e{}"))), "a"+kids+" "+kids+"@b"+kids+";"+kids+" => c;{<>! | e"+kids+" => ;{<>!")
	check(t, "Decls", "with Kids", showDecls(Decls(give("@a;b : c,d ! important ; e"))), "b =! c"+kids+","+kids+"d"+kids)
	check(t, "Trim", "with Kids", show(Trim(give(" a "))), "a"+kids)
}

// TestOfEachKind: all calls end at kinds that there are not, and take them for none of those that are named.
func TestOfEachKind(t *testing.T) {
	for _, kind := range []int{math.MinInt, -24, -1, 0, 25, 1 << 32, 1<<32 + api.Space, math.MaxInt} {
		odd := api.Value{Token: api.Token{Kind: kind, Text: "important"}, Kids: Values(cut("a{}"))}
		l := slices.Concat([]api.Value{odd}, Values(cut("a:b!")), []api.Value{odd}, Values(cut("{c};d:")), []api.Value{odd})
		if got := Rules(l); len(got) != 1 || !Same(got[0].Prelude, l[:6]) || !Same(got[0].Body, Values(cut("c"))) {
			t.Errorf("Rules with kind %d: %+v", kind, got)
		}
		if got := Decls(l); len(got) != 1 || got[0].Name != "d" || !Same(got[0].Value, []api.Value{odd}) || got[0].Important {
			t.Errorf("Decls with kind %d: %+v", kind, got)
		}
		if got := Decls(l[1:6]); len(got) != 1 || got[0].Important || !Same(got[0].Value, l[3:6]) {
			t.Errorf("Decls with kind %d: %+v", kind, got)
		}
		if got := Trim([]api.Value{odd}); !Same(got, []api.Value{odd}) {
			t.Errorf("Trim of kind %d: %+v", kind, got)
		}
	}
}

// TestWhatAKindDoesNotName is R7: it is not looked at.
func TestWhatAKindDoesNotName(t *testing.T) {
	l := Values(cut(" @x;A : b ! important ;"))
	for i := range l {
		l[i].Token.Unit, l[i].Token.Whole, l[i].Token.Flag = "u", true, true
		if l[i].Token.Text == "" {
			l[i].Token.Text = "t"
		}
	}
	got := Decls(l)
	if len(got) != 1 || got[0].Name != "a" || !got[0].Important || len(got[0].Value) != 1 || got[0].Value[0].Token != l[7].Token {
		t.Errorf("Decls: %+v", got)
	}
}

func TestSame(t *testing.T) {
	texts := []string{"", "a", "A", "b", "a b", "a  b", "ab", "a a", " a", "\"a\"", "#a", "#1a", "@a", "a(", "a(b)", "a(b c)", "a((b))", "a(b)c", "(b)", "[b]", "{b}", "()", "[]", "{}", "(", ")", "()()", "(())", "1", "1.0", "1%", "1px", "1PX", "1e1", "+1", "url(a)", "url(\"", "url(a b)", "\"\n", "<!--", "-->", ":", ";", ",", "!", "a:b", "b:a", "((a)(b))", "((a)(c))", "((a)(b)c)"}
	lists := make(map[string][]api.Value, len(texts))
	for _, s := range texts {
		lists[s] = Values(cut(s))
	}
	for _, x := range texts {
		for _, y := range texts {
			want := whole(lists[x]) == whole(lists[y])
			if got := Same(lists[x], lists[y]); got != want {
				t.Errorf("Same of %q and %q: %v", x, y, got)
			}
			if got := Same(lists[x], Values(cut(y))); got != want {
				t.Errorf("Same of %q and %q, cut again: %v", x, y, got)
			}
		}
	}
}

// TestSameInAll: a difference in any field, however deep, tells lists apart.
func TestSameInAll(t *testing.T) {
	one := func(v api.Value) []api.Value { return []api.Value{v} }
	base := api.Token{Kind: api.Hash, Text: "a", Unit: "u", Whole: true, Flag: true}
	others := []api.Token{base, base, base, base, base}
	others[0].Kind, others[1].Text, others[2].Unit, others[3].Whole, others[4].Flag = 0, "b", "", false, false
	for i, other := range others {
		a, b := one(api.Value{Token: base}), one(api.Value{Token: other})
		for deep := range 4 {
			if Same(a, b) || Same(b, a) || !Same(a, a) || !Same(b, b) {
				t.Errorf("Same of tokens that differ in field %d, %d deep", i, deep)
			}
			// Kids of what is a block, and of what is none.
			a, b = one(api.Value{Token: api.Token{Kind: api.OpenRound - deep}, Kids: a}), one(api.Value{Token: api.Token{Kind: api.OpenRound - deep}, Kids: b})
		}
	}
	none, empty := one(api.Value{Token: base}), one(api.Value{Token: base, Kids: []api.Value{}})
	if !Same(none, empty) || !Same(empty, none) {
		t.Error("Kids of nothing and empty Kids are not the Same")
	}
	if more := one(api.Value{Token: base, Kids: none}); Same(none, more) || Same(more, none) {
		t.Error("Kids and none are the Same")
	}
	if twice := slices.Concat(none, none); Same(none, twice) || Same(twice, none) || Same(nil, none) || Same(none, nil) {
		t.Error("lists of other lengths are the Same")
	}
}

func TestExample(t *testing.T) {
	b := Rules(Values(cut("a b{c:d!important;e} @x y; f{}")))
	if len(b) != 2 {
		t.Fatalf("Rules: %s", showBlocks(b))
	}
	check(t, "Decls", "the first", showDecls(Decls(b[0].Body)), "c =! d")
	check(t, "Decls", "the second", showDecls(Decls(b[1].Body)), "")
	check(t, "Prelude", "the first", show(b[0].Prelude), "a b")
	check(t, "Prelude", "the second", show(b[1].Prelude), "f")
}
