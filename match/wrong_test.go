package match

import (
	"fmt"
	"math"
	"slices"
	"testing"

	"gouache/api"
	"gouache/dom"
)

var farNumbers = []int{math.MinInt, math.MinInt + 1, -1 << 20, -2, -1, 0, 1 << 16, 1<<20 - 1, 1 << 20, 1<<20 + 1, 1<<20 + 2, 1<<32 + 1, 1<<32 + 2, math.MaxInt - 1, math.MaxInt}

// lists: whose selectors are true of anything, or of much.
func lists(t *testing.T) [][]api.Complex {
	t.Helper()
	l := [][]api.Complex{
		{{Parts: [][]api.Simple{nil}}},
		{{Parts: [][]api.Simple{{{Kind: api.Not}}}}},
		{{Parts: [][]api.Simple{{{Kind: api.Not, List: []api.Complex{{}}}}}}},
	}
	for _, s := range []string{"*", ":not(x)", ":root", ":empty", ":nth-child(n)", ":nth-last-child(n)", ":not(* *)", ":not(:not(*))", ":is(*)", ":where(*)", "* *", "* > *", "* + *", "* ~ *", "a", "[id]", ":nth-child(0)", ":not(:is(x, y))"} {
		l = append(l, sel(t, s))
	}
	return l
}

// nobody: no call says yes of an element.
func nobody(t *testing.T, what string, d *dom.Doc, id int, l []api.Complex) {
	t.Helper()
	if spec, ok := Best(d, id, l); ok || spec != (api.Spec{}) || List(d, id, l) {
		t.Errorf("%s: List or Best (%v, %v) of %d: %v", what, spec, ok, id, l)
	}
	for _, c := range l {
		if Complex(d, id, c) {
			t.Errorf("%s: Complex of %d: %v", what, id, c)
		}
		for _, part := range c.Parts {
			if Compound(d, id, part) {
				t.Errorf("%s: Compound of %d: %v", what, id, part)
			}
			for _, s := range part {
				if One(d, id, s) {
					t.Errorf("%s: One of %d: %v", what, id, s)
				}
			}
		}
	}
}

// TestUnmade: of a Doc that no call made all tell false.
func TestUnmade(t *testing.T) {
	refused, _ := dom.New("")
	for what, d := range map[string]*dom.Doc{"nil": nil, "zero": {}, "New's with an error": refused} {
		for _, l := range lists(t) {
			for _, id := range append(slices.Clone(farNumbers), 1, 2) {
				nobody(t, what, d, id, l)
			}
		}
		nobody(t, what, d, 1, nil)
	}
}

// TestNone: of numbers that no element has, or has any more, all tell false.
func TestNone(t *testing.T) {
	o := some(t).remove(4)
	for _, l := range lists(t) {
		for _, id := range append(slices.Clone(farNumbers), 4, 9, 10, 11) {
			nobody(t, "none", o.doc, id, l)
		}
		agree(t, "the others", o.doc, o.says, l)
	}
}

// wrong: is a selector said no of, with Not around it yes, and does it leave others of a list as they are?
func wrong(t *testing.T, what string, o one, c api.Complex) {
	t.Helper()
	d := o.doc
	l := []api.Complex{c}
	for id := 1; id < d.Next(); id++ {
		spec, ok := Best(d, id, l)
		if Complex(d, id, c) || List(d, id, l) || ok || spec != (api.Spec{}) {
			t.Errorf("%s: of %d: yes", what, id)
		}
		if !One(d, id, api.Simple{Kind: api.Not, List: l}) || One(d, id, api.Simple{Kind: api.Is, List: l}) || One(d, id, api.Simple{Kind: api.Where, List: l}) {
			t.Errorf("%s: of %d: within a list", what, id)
		}
		with := append(slices.Clone(l), sel(t, "*")[0])
		if !List(d, id, with) || !List(d, id, []api.Complex{with[1], with[0]}) {
			t.Errorf("%s: of %d: another one of the list", what, id)
		}
	}
	agree(t, what, d, o.says, l)
}

// TestWrongKinds: a Kind that is none says no, whatever else there is.
func TestWrongKinds(t *testing.T) {
	o := some(t)
	for _, kind := range []int{math.MinInt, -1, 0, 12, 13, 100, 1<<32 + 1, math.MaxInt} {
		s := api.Simple{Kind: kind, Name: "*", A: 1, List: sel(t, "*")}
		for id := 1; id < o.doc.Next(); id++ {
			if One(o.doc, id, s) || Compound(o.doc, id, []api.Simple{s}) {
				t.Errorf("kind %d of %d", kind, id)
			}
		}
		star := api.Simple{Kind: api.Tag, Name: "*"}
		wrong(t, fmt.Sprint("kind ", kind), o, api.Complex{Parts: [][]api.Simple{{s}}})
		wrong(t, fmt.Sprint("kind behind another ", kind), o, api.Complex{Parts: [][]api.Simple{{star, s}}})
		wrong(t, fmt.Sprint("kind ahead ", kind), o, api.Complex{Parts: [][]api.Simple{{s}, {star}}, Combs: []int{api.Descendant}})
	}
}

// TestWrongOps: an Op that is none says no, also where the value is the same.
func TestWrongOps(t *testing.T) {
	o := some(t)
	for _, op := range []int{math.MinInt, -1, 7, 8, 1 << 32, math.MaxInt} {
		for _, value := range []string{"", "x", "en-us"} {
			for _, name := range []string{"k", "class", "id", ""} {
				s := api.Simple{Kind: api.AttrSel, Name: name, Op: op, Value: value}
				wrong(t, fmt.Sprint("op ", op, name, value), o, api.Complex{Parts: [][]api.Simple{{s}}})
			}
		}
	}
	for op := api.Has; op <= api.Contains; op++ {
		for _, name := range []string{"", "*", "K", "k ", "ks"} {
			s := api.Simple{Kind: api.AttrSel, Name: name, Op: op, Value: "en-us"}
			wrong(t, fmt.Sprint("a name that none has: ", name), o, api.Complex{Parts: [][]api.Simple{{s}}})
		}
	}
}

// TestWrongCombs: a comb that is none, at each place, and where the rest is true.
func TestWrongCombs(t *testing.T) {
	o := some(t)
	for _, comb := range []int{math.MinInt, -1, 0, 5, 6, 1<<32 + 1, math.MaxInt} {
		wrong(t, fmt.Sprint("comb ", comb), o, api.Complex{Parts: make([][]api.Simple, 2), Combs: []int{comb}})
		wrong(t, fmt.Sprint("first comb ", comb), o, api.Complex{Parts: make([][]api.Simple, 3), Combs: []int{comb, api.Descendant}})
		wrong(t, fmt.Sprint("second comb ", comb), o, api.Complex{Parts: make([][]api.Simple, 3), Combs: []int{api.Descendant, comb}})
	}
}

// TestWrongCounts: no Parts; combs that are not one fewer.
func TestWrongCounts(t *testing.T) {
	o := some(t)
	for parts := range 5 {
		for combs := range 6 {
			c := api.Complex{Parts: make([][]api.Simple, parts), Combs: make([]int, combs)}
			for i := range c.Combs {
				c.Combs[i] = api.Descendant
			}
			what := fmt.Sprintf("%d parts, %d combs", parts, combs)
			if parts > 0 && combs == parts-1 {
				agree(t, what, o.doc, o.says, []api.Complex{c})
				is(t, what, Complex(o.doc, 8, c), true)
				continue
			}
			wrong(t, what, o, c)
		}
	}
	wrong(t, "nil", o, api.Complex{})
	wrong(t, "empty", o, api.Complex{Parts: [][]api.Simple{}, Combs: []int{}})
}

// TestNotLookedAt: what a Kind does not name does not matter, nor a Value with Has.
func TestNotLookedAt(t *testing.T) {
	o := some(t)
	for _, s := range []api.Simple{
		{Kind: api.Tag, Name: "b"}, {Kind: api.Tag, Name: "*"}, {Kind: api.Class, Name: "x"}, {Kind: api.ID, Name: "one"}, {Kind: api.AttrSel, Name: "k"}, {Kind: api.AttrSel, Name: "k", Op: api.Dash, Value: "en"}, {Kind: api.Not, List: sel(t, "b")}, {Kind: api.Is, List: sel(t, "b c")}, {Kind: api.Where}, {Kind: api.Not}, {Kind: api.Nth, A: 2, B: 1}, {Kind: api.NthLast, B: 2}, {Kind: api.Root}, {Kind: api.Empty},
	} {
		want := whom(o.doc, []api.Complex{{Parts: [][]api.Simple{{s}}}})
		full := s
		named := map[int]string{api.Tag: "n", api.Class: "n", api.ID: "n", api.AttrSel: "nov", api.Not: "l", api.Is: "l", api.Where: "l", api.Nth: "ab", api.NthLast: "ab"}[s.Kind]
		if !slices.Contains([]rune(named), 'n') {
			full.Name = "zzz"
		}
		if !slices.Contains([]rune(named), 'o') {
			full.Op = 99
		}
		if !slices.Contains([]rune(named), 'v') || s.Kind == api.AttrSel && s.Op == api.Has {
			full.Value = "zzz"
		}
		if !slices.Contains([]rune(named), 'a') {
			full.A, full.B = -5, math.MinInt
		}
		if !slices.Contains([]rune(named), 'l') {
			full.List = []api.Complex{{}}
		}
		is(t, fmt.Sprintf("%+v", full), whom(o.doc, []api.Complex{{Parts: [][]api.Simple{{full}}}}), want)
	}
}
