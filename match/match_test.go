package match

import (
	"fmt"
	"math"
	"strings"
	"testing"

	"gouache/api"
	"gouache/dom"
)

func is(t *testing.T, what string, got, want any) {
	t.Helper()
	if fmt.Sprint(got) != fmt.Sprint(want) {
		t.Errorf("%s: %v, want %v", what, got, want)
	}
}

// some: 1 a with 2 b (with 5, 6 and 7, all c, of which 6 has 8 d), 3 b, and 4 e (with 9 c).
func some(t *testing.T) one {
	t.Helper()
	o := begin(t, "a").under(1, "b").under(1, "b").under(1, "e")
	o = o.under(2, "c").under(2, "c").under(2, "c").under(6, "d").under(4, "c")
	o = o.set(2, "id", "one").set(2, "class", "x").set(6, "class", "x y").set(7, "k", "en-us").set(9, "k", "")
	return o.set(8, "class", "\t y\n\nz ").set(8, "id", "")
}

// whom: the numbers of whom a list means.
func whom(d *dom.Doc, l []api.Complex) []int {
	var out []int
	for id := -1; id <= d.Next()+1; id++ {
		if List(d, id, l) {
			out = append(out, id)
		}
	}
	return out
}

// TestExample: the chapter's, and those of the whole that are match's.
func TestExample(t *testing.T) {
	d := begin(t, "a").under(1, "b").doc
	is(t, "a > b", whom(d, sel(t, "a > b")), "[2]")
	d = begin(t, "r").under(1, "k").under(1, "k").under(1, "k").doc
	three := api.Simple{Kind: api.Nth, A: 2, B: 1}
	is(t, ":nth-child(2n+1)", []bool{One(d, 2, three), One(d, 3, three), One(d, 4, three)}, "[true false true]")
	d = begin(t, "a").set(1, "x", "y z").doc
	is(t, "[x~=y]", whom(d, sel(t, "[x~=y]")), "[1]")
	d = begin(t, "a").under(1, "b").under(1, "c").doc
	is(t, ":not(a, b)", whom(d, sel(t, ":not(a, b)")), "[3]")
}

// TestTexts: whom selectors mean that are read from texts.
func TestTexts(t *testing.T) {
	o := some(t)
	for s, want := range map[string]string{
		"*": "[1 2 3 4 5 6 7 8 9]", "b": "[2 3]", "z": "[]",
		"#one": "[2]", "#two": "[]", ".x": "[2 6]", ".y": "[6 8]", ".z": "[8]", ".x.y": "[6]", "c.x": "[6]",
		"[k]": "[7 9]", "[k='']": "[9]", "[k=en-us]": "[7]", "[k|=en]": "[7]", "[k|=e]": "[]", "[k^=en]": "[7]", "[k$=us]": "[7]", "[k*='-']": "[7]", "[id]": "[2 8]", "[class~=y]": "[6 8]",
		":root": "[1]", ":empty": "[3 5 7 8 9]", "e:empty": "[]",
		":first-child": "[1 2 5 8 9]", ":last-child": "[1 4 7 8 9]", ":only-child": "[1 8 9]",
		":nth-child(2)": "[3 6]", ":nth-child(odd)": "[1 2 4 5 7 8 9]", ":nth-child(n+2)": "[3 4 6 7]", ":nth-child(-n+2)": "[1 2 3 5 6 8 9]", ":nth-last-child(2)": "[3 6]", ":nth-last-child(3)": "[2 5]",
		":not(b)": "[1 4 5 6 7 8 9]", ":not(b, c)": "[1 4 8]", ":is(b, d)": "[2 3 8]", ":where(b, d)": "[2 3 8]", ":not(*)": "[]", ":not(:not(b))": "[2 3]", ":is(c:not(.x))": "[5 7 9]",
		"a c": "[5 6 7 9]", "b c": "[5 6 7]", "a d": "[8]", "b d": "[8]", "e d": "[]", "c c": "[]", "a > c": "[]", "b > c": "[5 6 7]", "b > d": "[]", "a > b > c > d": "[8]",
		"b + b": "[3]", "b + e": "[4]", "c + c": "[6 7]", "c + c + c": "[7]", "b ~ e": "[4]", "e ~ b": "[]", "c ~ c": "[6 7]", "a + b": "[]", "a ~ a": "[]", "b ~ c": "[]",
		"b b, c d, a > e": "[4 8]", ":not(b c)": "[1 2 3 4 8 9]", ":not(b > c, e > c) d": "[8]", ":is(b + b, c + c) d": "[8]", "b:is(a > .x) > :nth-child(2) *": "[8]",
	} {
		l := sel(t, s)
		is(t, s, whom(o.doc, l), want)
		agree(t, s, o.doc, o.says, l)
	}
}

func TestTag(t *testing.T) {
	d := some(t).doc
	for _, w := range []struct {
		name string
		want string
	}{{"*", "[true true true]"}, {"a", "[true false false]"}, {"b", "[false true true]"}, {"A", "[false false false]"}, {"", "[false false false]"}, {"**", "[false false false]"}, {"a ", "[false false false]"}} {
		s := api.Simple{Kind: api.Tag, Name: w.name}
		is(t, fmt.Sprintf("%q", w.name), []bool{One(d, 1, s), One(d, 2, s), One(d, 3, s)}, w.want)
	}
}

// TestID: an id is compared as a whole, an empty one too; another attribute is none.
func TestID(t *testing.T) {
	o := begin(t, "a").set(1, "id", "A b").under(1, "b").set(2, "id", "").under(1, "c").set(3, "k", "A b")
	for name, want := range map[string]string{"A b": "[1]", "": "[2]", "A": "[]", "b": "[]", "a b": "[]", "A b ": "[]", "*": "[]"} {
		l := []api.Complex{{Parts: [][]api.Simple{{{Kind: api.ID, Name: name}}}}}
		is(t, fmt.Sprintf("%q", name), whom(o.doc, l), want)
		agree(t, name, o.doc, o.says, l)
	}
}

// TestClass: one among several words, with blanks of all kinds between them; what is no blank stands within a word.
func TestClass(t *testing.T) {
	for value, words := range map[string]string{
		"": "", " \t\n ": "", "x": "x", "x y": "x y", "\tx\n\n y ": "x y", "y\nx": "x y", "x\ty": "x y", "x  y": "x y", "xy": "xy", "x\ry": "x\ry", "x\fy": "x\fy", "x\u00a0y": "x\u00a0y", "x-y": "x-y", "X": "X", "x x": "x", "x,y": "x,y", "x\x00": "x\x00", "\xff x": "\xff x",
	} {
		d := begin(t, "a").set(1, "class", value).set(1, "k", value).set(1, "id", "never").doc
		for _, name := range []string{"", " ", "x", "y", "x y", "xy", "x\ry", "x\fy", "x\u00a0y", "x-y", "X", "x,y", "x\x00", "\xff", "\ufffd", "\t", "\n", "never"} {
			want := name != "" && !strings.ContainsAny(name, " \t\n") && strings.Contains(" "+words+" ", " "+name+" ")
			is(t, fmt.Sprintf("class %q of %q", name, value), One(d, 1, api.Simple{Kind: api.Class, Name: name}), want)
			is(t, fmt.Sprintf("word %q of %q", name, value), One(d, 1, api.Simple{Kind: api.AttrSel, Name: "k", Op: api.Word, Value: name}), want)
		}
	}
	d := begin(t, "a").set(1, "k", "x").doc
	is(t, "without the attribute", []bool{One(d, 1, api.Simple{Kind: api.Class, Name: "x"}), One(d, 1, api.Simple{Kind: api.Class}), One(d, 1, api.Simple{Kind: api.ID}), One(d, 1, api.Simple{Kind: api.ID, Name: "x"})}, "[false false false false]")
}

// texts: all of at most so many of these characters.
func texts(most int, of ...string) []string {
	all := []string{""}
	for from, n := 0, 0; n < most; n++ {
		to := len(all)
		for _, s := range all[from:to] {
			for _, c := range of {
				all = append(all, s+c)
			}
		}
		from = to
	}
	return all
}

// TestOps: each operator, of all short texts held against all shorter ones.
func TestOps(t *testing.T) {
	values := texts(2, "a", "b", "-", " ", "\n")
	for _, s := range texts(3, "a", "b", "-", " ", "\n") {
		d := begin(t, "r").set(1, "k", s).doc
		for _, value := range append(values, s, s+"a", s+"-") {
			for op := -1; op <= 8; op++ {
				one := api.Simple{Kind: api.AttrSel, Name: "k", Op: op, Value: value}
				if got, want := One(d, 1, one), oAsks(op, value, s); got != want {
					t.Fatalf("op %d: %q of %q: %v, want %v", op, value, s, got, want)
				}
				one.Name = "other"
				if One(d, 1, one) {
					t.Fatalf("op %d: %q of an attribute that is not there", op, value)
				}
			}
		}
	}
}

// TestOpsSaid: the operators' edges, one by one: the Ops from Has to Contains, in a row.
func TestOpsSaid(t *testing.T) {
	for _, w := range []struct{ s, value, want string }{
		{"", "", "1101000"},
		{"x", "", "1000000"},
		{"-x", "", "1001000"},
		{"-", "", "1001000"},
		{"x", "x", "1111111"},
		{"", "x", "1000000"},
		{"en", "en", "1111111"},
		{"en-us", "en", "1001101"},
		{"english", "en", "1000101"},
		{"en us", "en", "1010101"},
		{"us en", "en", "1010011"},
		{"x-en", "en", "1000011"},
		{"en-", "en-", "1111111"},
		{"en--", "en-", "1001101"},
		{"aXbXc", "X", "1000001"},
		{"En", "en", "1000000"},
		{"en us", "en us", "1101111"},
		{" ", " ", "1101111"},
		{"\u00e9-a", "\u00e9", "1001101"},
		{"\u00e9", "\xc3", "1000101"},
		{"\xc3", "\xc3", "1111111"},
		{"a\x00-b", "a\x00", "1001101"},
	} {
		d := begin(t, "r").set(1, "k", w.s).doc
		got := ""
		for op := api.Has; op <= api.Contains; op++ {
			yes := One(d, 1, api.Simple{Kind: api.AttrSel, Name: "k", Op: op, Value: w.value})
			got += map[bool]string{false: "0", true: "1"}[yes]
		}
		is(t, fmt.Sprintf("%q in %q", w.value, w.s), got, w.want)
	}
}

// TestLongTexts: values as long as an attribute's may be, and longer ones that are asked for.
func TestLongTexts(t *testing.T) {
	long := strings.Repeat("x", 1000)
	d := begin(t, "r").set(1, "k", long).set(1, "class", strings.Repeat("x ", 499)+"yy").doc
	for op := api.Equal; op <= api.Contains; op++ {
		is(t, fmt.Sprint("the same, op ", op), One(d, 1, api.Simple{Kind: api.AttrSel, Name: "k", Op: op, Value: long}), true)
		is(t, fmt.Sprint("one longer, op ", op), One(d, 1, api.Simple{Kind: api.AttrSel, Name: "k", Op: op, Value: long + "x"}), false)
		is(t, fmt.Sprint("far longer, op ", op), One(d, 1, api.Simple{Kind: api.AttrSel, Name: "k", Op: op, Value: strings.Repeat(long, 1000)}), false)
	}
	is(t, "words", []bool{One(d, 1, api.Simple{Kind: api.Class, Name: "yy"}), One(d, 1, api.Simple{Kind: api.Class, Name: "y"})}, "[true false]")
	d = begin(t, "r").set(1, strings.Repeat("n", 64), "").doc
	is(t, "the longest name", []bool{One(d, 1, api.Simple{Kind: api.AttrSel, Name: strings.Repeat("n", 64)}), One(d, 1, api.Simple{Kind: api.AttrSel, Name: strings.Repeat("n", 63)})}, "[true false]")
}

var ends = []int{math.MinInt, math.MinInt + 1, math.MinInt + 3, -1 << 32, -1000000, -7, -6, -5, -4, -3, -2, -1, 0, 1, 2, 3, 4, 5, 6, 7, 1000000, 1 << 32, math.MaxInt - 3, math.MaxInt - 1, math.MaxInt}

// TestNth: all places among up to five Kids, and the root, by A and B up to their ends.
func TestNth(t *testing.T) {
	o := begin(t, "r")
	for kids := range 6 {
		for id := 1; id <= kids+1; id++ {
			first, last := 1, 1
			if id > 1 {
				first, last = id-1, kids+2-id
			}
			for _, a := range ends {
				for _, b := range ends {
					got := []bool{One(o.doc, id, api.Simple{Kind: api.Nth, A: a, B: b}), One(o.doc, id, api.Simple{Kind: api.NthLast, A: a, B: b})}
					if want := []bool{oFits(a, b, first), oFits(a, b, last)}; fmt.Sprint(got) != fmt.Sprint(want) {
						t.Fatalf("%d kids, the %d-th of them, %d, %d: %v, want %v", kids, first, a, b, got, want)
					}
				}
			}
		}
		o = o.under(1, "k")
	}
}

// TestNthSaid: the root, an only Kid, the first and the last one.
func TestNthSaid(t *testing.T) {
	d := begin(t, "r").under(1, "k").under(1, "k").under(1, "k").under(2, "k").doc
	tell := func(kind, a, b int) []int {
		return whom(d, []api.Complex{{Parts: [][]api.Simple{{{Kind: kind, A: a, B: b}}}}})
	}
	is(t, "first", tell(api.Nth, 0, 1), "[1 2 5]")
	is(t, "last", tell(api.NthLast, 0, 1), "[1 4 5]")
	is(t, "second", tell(api.Nth, 0, 2), "[3]")
	is(t, "third", []any{tell(api.Nth, 0, 3), tell(api.NthLast, 0, 3)}, "[[4] [2]]")
	is(t, "none", []any{tell(api.Nth, 0, 0), tell(api.NthLast, 0, 0), tell(api.Nth, 0, 4), tell(api.Nth, 0, -1)}, "[[] [] [] []]")
	is(t, "all", []any{tell(api.Nth, 1, 0), tell(api.NthLast, 1, math.MinInt)}, "[[1 2 3 4 5] [1 2 3 4 5]]")
	is(t, "from an end", []any{tell(api.Nth, -1, 2), tell(api.NthLast, -1, 2)}, "[[1 2 3 5] [1 3 4 5]]")
}

// TestRootAndEmpty: what is alone is both; what had Kids is empty again when they are gone.
func TestRootAndEmpty(t *testing.T) {
	root, empty := sel(t, ":root"), sel(t, ":empty")
	o := begin(t, "a")
	is(t, "alone", []any{whom(o.doc, root), whom(o.doc, empty)}, "[[1] [1]]")
	o = o.under(1, "a").under(2, "a")
	is(t, "with kids", []any{whom(o.doc, root), whom(o.doc, empty)}, "[[1] [3]]")
	o = o.move(3, 1, 0)
	is(t, "moved", []any{whom(o.doc, root), whom(o.doc, empty)}, "[[1] [2 3]]")
	o = o.remove(3).remove(2)
	is(t, "removed", []any{whom(o.doc, root), whom(o.doc, empty)}, "[[1] [1]]")
}

// TestLists: Not, Is and Where of an empty List, of an empty compound selector, and nested in one another.
func TestLists(t *testing.T) {
	o := some(t)
	d := o.doc
	tell := func(kinds []int, l []api.Complex) []int {
		for _, kind := range kinds {
			l = []api.Complex{{Parts: [][]api.Simple{{{Kind: kind, List: l}}}}}
		}
		agree(t, fmt.Sprint(kinds), d, o.says, l)
		return whom(d, l)
	}
	all, b, rest := "[1 2 3 4 5 6 7 8 9]", "[2 3]", "[1 4 5 6 7 8 9]"
	for _, none := range [][]api.Complex{nil, {}} {
		is(t, "an empty List", whom(d, none), "[]")
		is(t, "not", tell([]int{api.Not}, none), all)
		is(t, "is, where", []any{tell([]int{api.Is}, none), tell([]int{api.Where}, none)}, "[[] []]")
		is(t, "not not", tell([]int{api.Not, api.Not}, none), "[]")
		is(t, "not is", tell([]int{api.Is, api.Not}, none), all)
		is(t, "is not", tell([]int{api.Not, api.Is}, none), all)
		is(t, "where not not not", tell([]int{api.Not, api.Not, api.Not, api.Where}, none), all)
	}
	for _, nothing := range [][]api.Simple{nil, {}} {
		is(t, "nothing", []bool{Compound(d, 1, nothing), Compound(d, 9, nothing), Compound(d, 10, nothing)}, "[true true false]")
		l := []api.Complex{{Parts: [][]api.Simple{nothing}}}
		is(t, "of nothing", []any{whom(d, l), tell([]int{api.Is}, l), tell([]int{api.Not}, l)}, []any{all, all, "[]"})
		l = []api.Complex{{Parts: [][]api.Simple{nothing, nothing}, Combs: []int{api.Child}}}
		is(t, "below something", []any{whom(d, l), tell([]int{api.Not}, l)}, "[[2 3 4 5 6 7 8 9] [1]]")
	}
	l := sel(t, "b")
	is(t, "of b", []any{tell([]int{api.Not}, l), tell([]int{api.Is}, l), tell([]int{api.Where}, l)}, []any{rest, b, b})
	is(t, "nested", []any{tell([]int{api.Not, api.Not}, l), tell([]int{api.Not, api.Is}, l), tell([]int{api.Where, api.Not, api.Is, api.Not}, l)}, []any{b, rest, b})
	l = append(sel(t, "b"), api.Complex{}, sel(t, "d")[0])
	is(t, "with one that is none", []any{whom(d, l), tell([]int{api.Not}, l)}, "[[2 3 8] [1 4 5 6 7 9]]")
}

// TestBest: the greatest of those that are true, wherever it stands; those that are not true do not count.
func TestBest(t *testing.T) {
	d := some(t).doc
	for _, w := range []struct {
		id   int
		s    string
		want string
	}{
		{2, "b", "{0 0 1} true"},
		{2, "*", "{0 0 0} true"},
		{2, ":where(#one)", "{0 0 0} true"},
		{2, "c, #two, e", "{0 0 0} false"},
		{2, "b, #one, .x", "{1 0 0} true"},
		{2, "#one, b, .x", "{1 0 0} true"},
		{2, ".x, b, #one", "{1 0 0} true"},
		{2, ".x, #two, b", "{0 1 0} true"},
		{2, "#two, b, z", "{0 0 1} true"},
		{2, "a > b.x, b.x, #z #z b", "{0 1 2} true"},
		{2, "a b, a > b, .x:first-child", "{0 2 0} true"},
		{2, "b, b", "{0 0 1} true"},
		{2, ":is(b, #two)", "{1 0 0} true"},
		{2, ":not(#two, .z)", "{1 0 0} true"},
		{2, ":not(#one), b", "{0 0 1} true"},
		{8, ":not(b):root, a d:empty, a b c d", "{0 1 2} true"},
		{8, "a b c d, a d:empty, d", "{0 1 2} true"},
		{1, ":root, *", "{0 1 0} true"},
		{10, "*", "{0 0 0} false"},
		{0, "*", "{0 0 0} false"},
	} {
		spec, ok := Best(d, w.id, sel(t, w.s))
		is(t, fmt.Sprint(w.s, " of ", w.id), fmt.Sprint(spec, " ", ok), w.want)
	}
	spec, ok := Best(d, 1, nil)
	is(t, "of none", fmt.Sprint(spec, ok), "{0 0 0} false")
	spec, ok = Best(d, 1, []api.Complex{{}, {Parts: [][]api.Simple{{{Kind: api.ID}}}, Combs: []int{1}}})
	is(t, "of those that are none", fmt.Sprint(spec, ok), "{0 0 0} false")
	many := make([]api.Simple, api.MaxSpec+5)
	for i := range many {
		many[i] = api.Simple{Kind: api.Root}
	}
	spec, ok = Best(d, 1, []api.Complex{{Parts: [][]api.Simple{many}}, sel(t, "a")[0]})
	is(t, "the greatest part", fmt.Sprint(spec, ok), "{0 65535 0} true")
}
