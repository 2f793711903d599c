package query

import (
	"fmt"
	"math"
	"slices"
	"strings"
	"testing"

	"gouache/api"
	"gouache/bucket"
	"gouache/dom"
)

// nothing: what whole tells where nobody is.
const nothing = "[] 0 0 [] []"

// wrongLists: those that mean nobody, as no text has them.
func wrongLists() map[string][]api.Complex {
	a, b := []api.Simple{tag("*")}, []api.Simple{tag("b")}
	return map[string][]api.Complex{
		"no Parts":            {{}},
		"no Parts, many":      {{}, {}, {Parts: [][]api.Simple{}}},
		"no Parts, a Comb":    {{Combs: []int{api.Child}}},
		"a Comb too many":     {{Parts: [][]api.Simple{a}, Combs: []int{api.Child}}},
		"Combs too many":      {{Parts: [][]api.Simple{a, a}, Combs: []int{1, 1, 1}}},
		"a Comb too few":      {{Parts: [][]api.Simple{a, a}}},
		"a Comb too few of 3": {{Parts: [][]api.Simple{a, a, b}, Combs: []int{api.Descendant}}},
		"Comb 0":              {{Parts: [][]api.Simple{a, a}, Combs: []int{0}}},
		"Comb 5":              {{Parts: [][]api.Simple{a, a}, Combs: []int{5}}},
		"Comb -1":             {{Parts: [][]api.Simple{a, a, a}, Combs: []int{1, -1}}},
		"Comb far":            {{Parts: [][]api.Simple{a, a, a}, Combs: []int{math.MinInt, 1}}, {Parts: [][]api.Simple{a, a}, Combs: []int{math.MaxInt}}},
		"Comb 2^32 + 1":       {{Parts: [][]api.Simple{a, a}, Combs: []int{1<<32 + 1}}},
		"Kind 0":              {part(api.Simple{}), part(api.Simple{Name: "*"})},
		"Kind 12":             {part(api.Simple{Kind: 12, Name: "*"})},
		"Kind -1":             {part(tag("*"), api.Simple{Kind: -1})},
		"Kinds far":           {part(api.Simple{Kind: math.MinInt}), part(api.Simple{Kind: math.MaxInt}), part(api.Simple{Kind: 1<<32 + 1, Name: "*"}), part(api.Simple{Kind: 257, Name: "*"})},
		"Kinds above":         {{Parts: [][]api.Simple{{{Kind: 99}}, a}, Combs: []int{1}}, {Parts: [][]api.Simple{{{}}, a}, Combs: []int{4}}},
		"an Op that is none":  {part(api.Simple{Kind: api.AttrSel, Name: "class", Op: 7, Value: "x"}), part(api.Simple{Kind: api.AttrSel, Name: "class", Op: -1})},
		"empty Lists":         {part(api.Simple{Kind: api.Is}), part(api.Simple{Kind: api.Where, List: []api.Complex{}})},
		"Lists of none":       {part(api.Simple{Kind: api.Is, List: []api.Complex{{}}}), part(api.Simple{Kind: api.Where, List: []api.Complex{{Combs: []int{1}}}})},
		"names that are none": {part(tag("")), part(class("")), part(class("x y")), part(class(" ")), part(tag("\xff")), part(ident("\x00"))},
		"names, very long":    {part(tag(strings.Repeat("a", 1<<20))), part(ident(strings.Repeat("i", 1<<20)))},
	}
}

// TestWrongSelectors: they mean nobody; beside others they do no harm.
func TestWrongSelectors(t *testing.T) {
	d := some(t)
	good := sel(t, "b > *")
	for what, l := range wrongLists() {
		for id := -1; id <= d.Next()+1; id++ {
			is(t, what, whole(d, id, l), nothing)
		}
		is(t, what, agree(t, what, d, l), 0)
		mixed := slices.Concat(l, good, l)
		is(t, what+", beside a good one", All(d, 1, mixed), "[5 6 8 10]")
		agree(t, what, d, mixed)
		is(t, what, matches(t, what, d, placed(l, l)), 0)
		matches(t, what, d, placed(mixed, l, good))
	}
}

// TestWrongWithin: Not of what is none means all; what a part of nothing means is anybody.
func TestWrongWithin(t *testing.T) {
	d := some(t)
	for what, l := range wrongLists() {
		not := []api.Complex{part(api.Simple{Kind: api.Not, List: l})}
		is(t, what, All(d, 1, not), someOrder[1:])
		is(t, what, []int{First(d, 1, not), Closest(d, 8, not)}, "[7 8]")
		agree(t, what, d, not)
	}
	for _, l := range [][]api.Complex{{part()}, {{Parts: [][]api.Simple{{}}}}, {{Parts: [][]api.Simple{nil}}}} {
		is(t, "a part of nothing", whole(d, 2, l), "[5 6 8 10] 5 2 [5 6 8 10] [0]")
	}
	l := []api.Complex{{Parts: [][]api.Simple{nil, nil, {}}, Combs: []int{api.Child, api.Later}}}
	is(t, "parts of nothing", All(d, 1, l), "[2 6 10 3 4]")
	agree(t, "parts of nothing", d, l)
}

// TestNotLookedAt: what a Kind does not name counts for nothing, even a List that holds itself.
func TestNotLookedAt(t *testing.T) {
	d := some(t)
	l := sel(t, "a > b, e ~ .y, #j, [k], :nth-child(3), :nth-last-child(4), :root, d:empty")
	want := fmt.Sprint(oAll(d, 1, l))
	for i := range l {
		for _, simples := range l[i].Parts {
			for n := range simples {
				simples[n].List = l
			}
		}
	}
	is(t, "All", All(d, 1, l), want)
	is(t, "Each", slices.Collect(Each(d, 1, l)), want)
	is(t, "First and Closest", []int{First(d, 1, l), Closest(d, 8, l)}, "[7 8]")
	is(t, "Matched", Matched(d, 8, placed(l, l), nil), "[0 1]")
}

// TestUnmadeDoc: of a Doc that no call made nothing is told.
func TestUnmadeDoc(t *testing.T) {
	refused, _ := dom.New("")
	l := sel(t, "*, :not(a), :root, a *")
	for what, d := range map[string]*dom.Doc{"nil": nil, "zero": {}, "new": new(dom.Doc), "New's with an error": refused} {
		for _, id := range append([]int{1, 2, 3}, farNumbers...) {
			is(t, fmt.Sprint(what, ", of ", id), whole(d, id, l), nothing)
			each := Each(d, id, l)
			if each == nil {
				t.Fatal("no iterator")
			}
			for one := range each {
				t.Errorf("%s: %d", what, one)
			}
			r := placed(l, l, nil)
			is(t, what, Matched(d, id, r, bucket.Make(r)), "[]")
		}
	}
}

// TestNone: of numbers that no element has, or has any more.
func TestNone(t *testing.T) {
	d := page{t, some(t)}.remove(2).doc
	l := sel(t, "*, :not(a), :root, a *")
	r := placed(l, l)
	for _, id := range append([]int{2, 5, 6, 8, 10, 11, 12}, farNumbers...) {
		is(t, fmt.Sprint("of ", id), whole(d, id, l), nothing)
		is(t, fmt.Sprint("Matched of ", id), Matched(d, id, r, bucket.Make(r)), "[]")
	}
	is(t, "who is left", whole(d, 1, l), "[7 3 4 9] 7 1 [7 3 4 9] [0]")
	agree(t, "who is left", d, l)
}

// TestOtherIndexes: an Index that no call made is as good as none; so is one that is seen to be of other rules, as it has not so many; whatever it is, nothing panics and only rules that are meant are told.
func TestOtherIndexes(t *testing.T) {
	d := some(t)
	l := rules(t, "b", "c, .x", "*", "a > b")
	want := fmt.Sprint(oMatched(d, 2, l))
	for what, x := range map[string]*bucket.Index{
		"zero":        {},
		"new":         new(bucket.Index),
		"of none":     bucket.Make(nil),
		"of fewer":    bucket.Make(l[:2]),
		"of more":     bucket.Make(append(rules(t, "q"), l...)),
		"of far more": bucket.Make(rules(t, strings.Split(strings.Repeat("*|", 100)+"b", "|")...)),
	} {
		is(t, what, Matched(d, 2, l, x), want)
		is(t, what+", of no rules", Matched(d, 2, nil, x), "[]")
		is(t, what+", of none", Matched(d, 99, l, x), "[]")
	}
	other := bucket.Make(rules(t, "b", "q", "q", "b"))
	for id := -1; id <= d.Next(); id++ {
		for _, place := range Matched(d, id, l, other) {
			if !slices.Contains(oMatched(d, id, l), place) {
				t.Errorf("with others of as many: %d told of %d", place, id)
			}
		}
	}
	for id := -1; id <= d.Next(); id++ {
		is(t, "a copy of an Index", Matched(d, id, l, func() *bucket.Index { x := *bucket.Make(l); return &x }()), oMatched(d, id, l))
	}
}
