package parse

import (
	"fmt"
	"math"
	"math/rand"
	"slices"
	"strings"
	"testing"

	"gouache/api"
)

func TestValues(t *testing.T) {
	for _, c := range []struct{ in, out string }{
		{"", ""}, {"a", "a"}, {"a b", "a b"}, {"a:b;c,d", "a:b;c,d"},
		{"()", "(<>"}, {"[]", "[<>"}, {"{}", "{<>"}, {"f()", "f(<>"},
		{"(a)b", "(<a>b"}, {"[a]b", "[<a>b"}, {"{a}b", "{<a>b"}, {"f(a)b", "f(<a>b"},
		{"( a )", "(< a >"}, {"(a)(b)", "(<a>(<b>"}, {"f([{a}b]c)d", "f(<[<{<a>b>c>d"},
		{"f(g(a)(b))c", "f(<g(<a>(<b>>c"}, {"[[a]b]c", "[<[<a>b>c"},
		// Blocks without an end.
		{"(", "(<>"}, {"f(", "f(<>"}, {"[a", "[<a>"}, {"{a;b ", "{<a;b >"}, {"f([{", "f(<[<{<>>>"}, {"({a}b", "(<{<a>b>"}, {"a(b)(", "a(<b>(<>"},
		// A Close that is not that of the block directly around it.
		{")", ")"}, {"]", "]"}, {"}", "}"}, {"a)b]c}d", "a)b]c}d"}, {"(a]b)c", "(<a]b>c"}, {"(})]", "(<}>]"}, {"[)]", "[<)>"}, {"{])}", "{<])>"}, {"f(]})a", "f(<]}>a"},
		{"([a)b]c)d", "(<[<a)b>c>d"}, {"{(}a)b}c", "{<(<}a>b>c"}, {"a(b[c)d]", "a(<b[<c)d>>"}, {"())", "(<>)"}, {"f(a)b)c", "f(<a>b)c"},
	} {
		check(t, "Values", c.in, show(Values(cut(c.in))), c.out)
	}
}

func TestNothing(t *testing.T) {
	for _, l := range [][]api.Token{nil, {}} {
		if got := Values(l); len(got) != 0 {
			t.Errorf("Values of nothing: %v", got)
		}
	}
	for _, l := range [][]api.Value{nil, {}} {
		if got := Flat(l); len(got) != 0 {
			t.Errorf("Flat of nothing: %v", got)
		}
		if got := Rules(l); len(got) != 0 {
			t.Errorf("Rules of nothing: %v", got)
		}
		if got := Decls(l); len(got) != 0 {
			t.Errorf("Decls of nothing: %v", got)
		}
		if got := Trim(l); len(got) != 0 {
			t.Errorf("Trim of nothing: %v", got)
		}
		for _, other := range [][]api.Value{nil, {}} {
			if !Same(l, other) {
				t.Error("nothing and an empty list are not the Same")
			}
		}
	}
}

// TestValuesOfEachKind: also of kinds that there are not, with texts and flags that no text gives a token.
func TestValuesOfEachKind(t *testing.T) {
	kinds := []int{math.MinInt, -1 << 32, 1 << 32, math.MaxInt}
	for kind := -3; kind <= 30; kind++ {
		kinds = append(kinds, kind)
	}
	for _, one := range kinds {
		for _, other := range kinds {
			a := api.Token{Kind: one, Text: "\xff", Unit: "u", Whole: true, Flag: true}
			b := api.Token{Kind: other, Text: "", Unit: "\x00"}
			c := api.Token{Kind: api.Comma, Text: "c"}
			want := []api.Value{{Token: b}, {Token: c}}
			if pairs[other] != 0 {
				want = []api.Value{{Token: b, Kids: []api.Value{{Token: c}}}}
			}
			switch pairs[one] {
			case 0:
				want = append([]api.Value{{Token: a}}, want...)
			case other:
				want = []api.Value{{Token: a}, {Token: c}}
			default:
				want = []api.Value{{Token: a, Kids: want}}
			}
			check(t, "Values", fmt.Sprint(one, other), whole(Values([]api.Token{a, b, c})), whole(want))
		}
	}
}

// nest is a text in blocks, and how show writes them: by turns those of round, square and curly ones and functions.
type nest struct {
	open, shut, shown string
}

func nestOf(deep int) nest {
	var n nest
	for i := range deep {
		open := []string{"(", "[", "{", "f("}[i%4]
		n.open += open
		n.shut = []string{")", "]", "}", ")"}[i%4] + n.shut
		n.shown += open + "<"
	}
	return n
}

func TestValuesAtMaxNest(t *testing.T) {
	n := nestOf(api.MaxNest)
	back := strings.Repeat(">", api.MaxNest)
	deeper := nestOf(300)
	for _, c := range []struct{ in, out string }{
		{"", ""}, {"a", "a"}, {"a b;", "a b;"}, {"a]}b", "a]}b"},
		// One deeper.
		{"()", ""}, {"[]", ""}, {"{}", ""}, {"g()", ""}, {"a,(b)c", "a,c"}, {"a g(b) c", "a  c"}, {"a[b]{c}(d)g(e)f", "af"},
		// Two deeper, and more.
		{"a,([b]c)d", "a,d"}, {"a{[(g(b))]}c", "ac"}, {"a," + deeper.open + "b" + deeper.shut + "c", "a,c"},
		// In what is left out, too, a Close may be none of the block directly around it.
		{"a,(])b", "a,b"}, {"a[)}b]c", "ac"}, {"a{])b}c", "ac"}, {"a,([)]b)c", "a,c"}, {"a,({)b}c)d", "a,d"}, {"a,g(])b", "a,b"}, {"a,g((b)c)d", "a,d"}, {"a[(]b)c]d", "ad"},
	} {
		in := n.open + c.in + n.shut + "z"
		check(t, "Values", in, show(Values(cut(in))), n.shown+c.out+back+"z")
		// Without their Close all blocks reach to the end.
		in = n.open + c.in
		check(t, "Values", in, show(Values(cut(in))), n.shown+c.out+back)
	}
	// What is left out and has no Close reaches to the end.
	for _, s := range []string{"(", "[", "{", "g(", "(a]}b", "[a)}b", "{a)]b", "g(a]}b", "([a)}b", "([a])[", deeper.open} {
		in := n.open + "x " + s
		check(t, "Values", in, show(Values(cut(in))), n.shown+"x "+back)
	}
	// One less deep, all is told.
	n = nestOf(api.MaxNest - 1)
	in := n.open + "a(b)c[d]{e}g(f)h" + n.shut + "z"
	check(t, "Values", in, show(Values(cut(in))), n.shown+"a(<b>c[<d>{<e>g(<f>h"+back[1:]+"z")
}

func TestValuesAgainstOracle(t *testing.T) {
	const alphabet = "a(f[{)]}"
	tokens := map[rune]api.Token{'a': {Kind: api.Ident, Text: "a"}, '(': {Kind: api.OpenRound}, 'f': {Kind: api.Function, Text: "f"}, '[': {Kind: api.OpenSquare}, '{': {Kind: api.OpenCurly}, ')': {Kind: api.CloseRound}, ']': {Kind: api.CloseSquare}, '}': {Kind: api.CloseCurly}}
	try := func(s string) {
		var l []api.Token
		for _, c := range s {
			l = append(l, tokens[c])
		}
		got, want := Values(l), oracleValues(l)
		if !alike(got, want) {
			t.Fatalf("Values of %q: %s, want %s", s, show(got), show(want))
		}
		// P3.4
		if again := Values(Flat(got)); !alike(again, want) || !Same(again, got) {
			t.Fatalf("Values of Flat of Values of %q: %s, want %s", s, show(again), show(got))
		}
	}
	eachSpelling(alphabet, 5, try)
	deep := strings.Repeat("([{f", api.MaxNest/4)
	eachSpelling(alphabet, 3, func(s string) {
		for less := range 3 {
			try(deep[:len(deep)-less] + s + ")")
			try(deep[less:] + s + ")}])}])")
		}
	})
	chance := rand.New(rand.NewSource(3))
	for range 2000 {
		var b strings.Builder
		for range 400 {
			// More of what opens than of what closes, so that MaxNest is gone beyond and come back from.
			b.WriteByte("a(f[{)]}(f[{)]}([{"[chance.Intn(18)])
		}
		try(b.String())
	}
}

func TestFlat(t *testing.T) {
	for _, c := range []struct{ in, out string }{
		{"a b", "a b"}, {"(a)", "(a)"}, {"[a]b", "[a]b"}, {"{a;}", "{a;}"}, {"f(a,b)c", "f(a,b)c"}, {"f([{g()}])", "f([{g()}])"},
		{"(", "()"}, {"[a{b", "[a{b}]"}, {"f(a", "f(a)"}, {"(]", "(])"}, {")", ")"}, {"([)]", "([)])"},
	} {
		check(t, "Flat of Values", c.in, showTokens(Flat(Values(cut(c.in)))), c.out)
	}
}

// TestFlatOfWhatNoValuesTold: Kids of what is no block are not told, and blocks may be deeper than MaxNest.
func TestFlatOfWhatNoValuesTold(t *testing.T) {
	inner := []api.Value{{Token: api.Token{Kind: api.Ident, Text: "in"}, Kids: []api.Value{{Token: api.Token{Kind: api.Comma}}}}}
	for _, kind := range []int{math.MinInt, -1, 0, 1, 2, 3, 4, 5, 6, 7, 8, 9, 10, 11, 12, 13, 14, 15, 16, 17, 18, 19, 20, 21, 22, 23, 24, 25, math.MaxInt} {
		first := api.Token{Kind: kind, Text: "t", Unit: "u", Whole: true, Flag: true}
		last := api.Token{Kind: api.Semicolon}
		want := []api.Token{first, last}
		if pairs[kind] != 0 {
			want = []api.Token{first, inner[0].Token, {Kind: pairs[kind]}, last}
		}
		if got := Flat([]api.Value{{Token: first, Kids: inner}, {Token: last}}); !slices.Equal(got, want) {
			t.Errorf("Flat of kind %d with Kids: %v, want %v", kind, got, want)
		}
	}
	deep := towers(1000)
	check(t, "Flat", "1000 blocks", showTokens(Flat(deep)), strings.Repeat("(", 1000)+"a"+strings.Repeat(")", 1000))
}

// towers: a value in so many blocks.
func towers(deep int) []api.Value {
	l := []api.Value{{Token: api.Token{Kind: api.Ident, Text: "a"}}}
	for range deep {
		l = []api.Value{{Token: api.Token{Kind: api.OpenRound}, Kids: l}}
	}
	return l
}

// TestMuch: the document's bound is 2^16 parts in one another; tokens may open more blocks than that.
func TestMuch(t *testing.T) {
	const deep = 1 << 16
	l := towers(deep)
	tokens := Flat(l)
	if len(tokens) != 2*deep+1 {
		t.Errorf("Flat of %d blocks: %d tokens", deep, len(tokens))
	}
	if !Same(l, towers(deep)) || Same(l, towers(deep-1)) || Same(Trim(l), towers(deep+1)) {
		t.Error("Same of deep values")
	}
	if got := Rules([]api.Value{{Token: api.Token{Kind: api.OpenCurly}, Kids: l}}); len(got) != 1 || !Same(got[0].Body, l) {
		t.Error("Rules of deep values")
	}
	if got := Values(tokens); !Same(got, atMost(api.MaxNest)) {
		t.Error("Values of deep blocks")
	}
	for _, kind := range []int{api.Function, api.OpenSquare, api.OpenRound, api.OpenCurly, api.CloseRound, api.Semicolon, api.At, api.Space} {
		many := slices.Repeat([]api.Token{{Kind: kind}}, 1<<18)
		v := Values(many)
		Rules(v)
		Decls(v)
		Trim(v)
	}
}

// atMost: so many blocks with nothing in the last one.
func atMost(deep int) []api.Value {
	var l []api.Value
	for range deep {
		l = []api.Value{{Token: api.Token{Kind: api.OpenRound}, Kids: l}}
	}
	return l
}
