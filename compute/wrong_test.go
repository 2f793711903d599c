package compute

import (
	"fmt"
	"math"
	"slices"
	"strings"
	"testing"

	"gouache/api"
	"gouache/cascade"
	"gouache/sheet"
)

// ends: numbers at the ends of what an int holds, and others that no element has.
func ends() []int {
	return []int{math.MinInt, math.MinInt + 1, -1 << 32, math.MinInt32, -2, -1, 0, 8, 9, api.MaxNodes - 1, api.MaxNodes, api.MaxNodes + 1, 1<<32 + 1, 1<<32 + 2, math.MaxInt32, math.MaxInt - 1, math.MaxInt}
}

// TestNumbersAtTheEnds: no element has such a number.
func TestNumbersAtTheEnds(t *testing.T) {
	d := some(t)
	l := author(t, "*, :not(q){color:red}")
	for _, id := range ends() {
		is(t, fmt.Sprint(id), Entries(d, id, l), none())
		is(t, fmt.Sprint(id), Style(d, id, l), nothing())
		is(t, fmt.Sprint(id), told(Get(d, id, l, "color")), told("", api.ErrNoNode))
		is(t, fmt.Sprint(id), told(Get(d, id, nil, "x")), told("", api.ErrNoNode))
	}
}

// TestRulesAtTheEnds: Sheet and Index count for nothing, and a rule of an Origin that is none loses to each other one.
func TestRulesAtTheEnds(t *testing.T) {
	p := begin(t, "a")
	l := author(t, "a{order:1} a{order:2;z-index:3!important}")
	for _, n := range append(ends(), 4, 257, 65539) {
		l[1].Sheet, l[1].Index, l[1].Origin = n, n, api.Author
		gets(t, p, 1, l, "order", "2")
		l[1].Origin = n
		is(t, "Entries", Entries(p.doc, 1, l), oEntries(p.doc, 1, l))
		gets(t, p, 1, l, "order", "1")
		gets(t, p, 1, l, "z-index", "3")
	}
}

// TestEntriesAtTheEnds: Given of entries whose numbers are no sheet's.
func TestEntriesAtTheEnds(t *testing.T) {
	var l []cascade.Entry
	for _, a := range ends() {
		for _, b := range ends() {
			l = append(l, of("order", fmt.Sprint(a, " ", b), a, b < 0, api.Spec{A: b, B: a, C: b}, a), of("color", fmt.Sprint(b, a), api.Author, false, api.Spec{A: a, B: b}, b))
		}
	}
	is(t, "all", Given(nil, l), oGiven(nil, l))
	for i := range l {
		is(t, "some", Given(nil, l[i:]), oGiven(nil, l[i:]))
	}
}

// TestWrongSelectors: rules whose selectors no text has.
func TestWrongSelectors(t *testing.T) {
	p := begin(t, "a").under(1, "b")
	anybody := []api.Simple{{Kind: api.Tag, Name: "*"}}
	l := author(t, "*{color:red}")
	for what, c := range map[string]api.Complex{
		"no Parts":        {},
		"a Comb alone":    {Combs: []int{1}},
		"a Comb too many": {Parts: [][]api.Simple{anybody}, Combs: []int{1}},
		"a Comb too few":  {Parts: [][]api.Simple{anybody, anybody}},
		"a Comb far":      {Parts: [][]api.Simple{anybody, anybody}, Combs: []int{math.MinInt}},
		"Kind 0":          {Parts: [][]api.Simple{{{Name: "*"}}}},
		"a Kind far":      {Parts: [][]api.Simple{{{Kind: math.MaxInt}}}},
		"an empty List":   {Parts: [][]api.Simple{{{Kind: api.Is}}}},
		"bytes":           {Parts: [][]api.Simple{{{Kind: api.Tag, Name: "\xff"}}}},
		"a long name":     {Parts: [][]api.Simple{{{Kind: api.Class, Name: strings.Repeat("x", 1<<20)}}}},
	} {
		l[0].Rule.Selector = []api.Complex{c}
		is(t, what, Entries(p.doc, 2, l), none())
		gets(t, p, 2, l, "color", "#000000")
		l[0].Rule.Selector = append(sel(t, "b"), c)
		is(t, what, Entries(p.doc, 2, l), oEntries(p.doc, 2, l))
		gets(t, p, 2, l, "color", "#ff0000")
	}
	for what, c := range map[string]api.Complex{
		"a part of nothing": {Parts: [][]api.Simple{nil}},
		"not of none":       {Parts: [][]api.Simple{{{Kind: api.Not}}}},
	} {
		l[0].Rule.Selector = []api.Complex{c}
		is(t, what, Entries(p.doc, 2, l), []cascade.Entry{of("color", "#ff0000", 3, false, api.Spec{}, 0)})
		gets(t, p, 2, l, "color", "#ff0000")
	}
}

// TestWrongDecls: declarations that no text has.
func TestWrongDecls(t *testing.T) {
	p := begin(t, "a")
	l := author(t, "*{}")
	word := func(s string) api.Value { return api.Value{Token: api.Token{Kind: api.Ident, Text: s}} }
	deep := word("red")
	for range 1 << 16 {
		deep = api.Value{Token: api.Token{Kind: api.OpenRound}, Kids: []api.Value{deep}}
	}
	kids := word("red")
	kids.Kids = []api.Value{deep}
	for what, d := range map[string]api.Decl{
		"nothing":         {},
		"no Value":        {Name: "color"},
		"no Name":         {Value: cells("red")},
		"a capital Name":  {Name: "Color", Value: cells("red")},
		"a Name of bytes": {Name: "\xff", Value: cells("red")},
		"Kind 0":          {Name: "color", Value: []api.Value{{Token: api.Token{Text: "red"}}}},
		"a Kind far":      {Name: "color", Value: []api.Value{{Token: api.Token{Kind: math.MinInt, Text: "red"}}}},
		"bytes":           {Name: "color", Value: []api.Value{word("\xff")}},
		"a long word":     {Name: "color", Value: []api.Value{word(strings.Repeat("red", 1<<20))}},
		"a long Name":     {Name: strings.Repeat("color", 1<<20), Value: cells("red")},
		"nested":          {Name: "color", Value: []api.Value{deep}},
		"Kids":            {Name: "color", Value: []api.Value{kids}},
		"many":            {Name: "color", Value: slices.Repeat(cells("red"), 1<<16)},
	} {
		l[0].Rule.Decls = []api.Decl{d, {Name: "order", Value: cells("7")}, d}
		is(t, what, Entries(p.doc, 1, l), []cascade.Entry{of("order", "7", 3, false, api.Spec{}, 0)})
		gets(t, p, 1, l, "color", "#000000")
		gets(t, p, 1, l, "order", "7")
	}
	l[0].Rule.Decls = []api.Decl{{Name: "color", Value: []api.Value{{Token: api.Token{Kind: api.Space}}, word("RED"), {Token: api.Token{Kind: api.Space}}}}}
	gets(t, p, 1, l, "color", "#ff0000")
	digits := strings.Repeat("9", 1<<20)
	for kind, want := range map[int]string{api.Percent: "160000px", api.Dimension: "1000000px"} {
		l[0].Rule.Decls = []api.Decl{{Name: "font-size", Value: []api.Value{{Token: api.Token{Kind: kind, Text: digits, Unit: "px", Whole: true}}}}}
		gets(t, p, 1, l, "font-size", want)
	}
}

// TestBytesThatAreNone: bytes with which no character begins, in all that is handed in.
func TestBytesThatAreNone(t *testing.T) {
	for _, bad := range []string{"\x00", "\x80", "\xc0\xaf", "\xc3", "\xed\xa0\x80", "\xf4\x90\x80\x80", "\xff"} {
		all := slices.Repeat([]string{bad}, 48)
		is(t, bad, Given(all, nil), oGiven(all, nil))
		is(t, bad, Fix(all, all, true), all)
		l := []cascade.Entry{entry("color", bad), entry(bad, "red"), entry("color"+bad, "blue")}
		is(t, bad, Given(all, l), oGiven(all, l))
		for _, name := range []string{"font-size", "font-weight", "border-top-width", "border-top-color"} {
			fixes(t, with(marked("P"), "font-size", bad), false, []string{"border-top-style", bad, name, "50%" + bad}, nil)
		}
		fixes(t, with(marked("P"), "font-size", bad+"9px"), false, []string{"font-size", "50%"}, []string{"font-size", "8px"})
		is(t, bad, told(Get(some(t), 1, nil, bad)), told("", api.ErrProp))
	}
}

// TestLongTexts: values and names of very many bytes.
func TestLongTexts(t *testing.T) {
	as, nines := strings.Repeat("a", 1<<22), strings.Repeat("9", 1<<22)
	same := func(what string, got, want []string) {
		t.Helper()
		if !slices.Equal(got, want) {
			t.Errorf("%s: another style", what)
		}
	}
	parent := slices.Repeat([]string{as}, 48)
	same("Given", Given(parent, []cascade.Entry{entry("width", "inherit"), entry(as, as)}), oGiven(parent, []cascade.Entry{entry("width", "inherit")}))
	same("Given", Given(nil, []cascade.Entry{entry("width", as), entry("order", nines)}), with(oInitial(), "width", as, "order", nines))
	given := with(parent, "float", "none")
	same("Fix", Fix(parent, given, true), given)
	same("Fix", Fix(nil, with(given, "font-size", nines+"%"), false), with(given, "font-size", "160000px"))
	same("Fix", Fix(nil, with(given, "font-size", "-"+nines+"%"), false), with(given, "font-size", "-160000px"))
	same("Fix", Fix(nil, with(given, "font-size", nines+"px"), false), with(given, "font-size", nines+"px"))
	same("Fix", Fix(with(parent, "font-size", nines+"px"), with(given, "font-size", "7%"), false), with(given, "font-size", "70000px"))
	same("Fix", Fix(nil, with(given, "color", as, "background-color", "currentcolor"), false), with(given, "background-color", as))
}

// TestManyEntries: very many entries of few names, and of many.
func TestManyEntries(t *testing.T) {
	const many = 1 << 18
	var l []cascade.Entry
	for i := range many {
		l = append(l, of([]string{"color", "width", fmt.Sprint("x", i)}[i%3], fmt.Sprint(i), 1+i%3, i%7 == 0, api.Spec{C: i % 5}, i))
	}
	is(t, "Given", Given(nil, l), oGiven(nil, l))
}

// TestDeep: a style as deep as an element may stand.
func TestDeep(t *testing.T) {
	p := page{t, chain(t, api.MaxDepth)}
	l := author(t, "a{font-size:200%} b{font-size:50%;border-style:solid;border-width:inherit} :root{color:red;border:x;border-style:solid}")
	for id, want := range map[int]string{1: "32px", 2: "16px", 511: "32px", 512: "16px"} {
		gets(t, p, id, l, "font-size", want)
	}
	gets(t, p, 512, l, "color", "#ff0000")
	gets(t, p, 2, l, "border-left-width", "3px")
	gets(t, p, 4, l, "border-left-width", "0px")
	gets(t, p, 512, author(t, "*{font-size:200%}"), "font-size", "1000000px")
	gets(t, p, 512, author(t, "*{font-size:50%}"), "font-size", "0px")
	gets(t, p, 512, author(t, "*{width:inherit} :root{width:7px}"), "width", "7px")
	gets(t, p, 512, author(t, "*{width:inherit} :root{width:7px} b > a{width:unset}"), "width", "auto")
}

// TestManyRules: as many rules as there may be, few of which mean the element, below as many as may be.
func TestManyRules(t *testing.T) {
	few := author(t, "q{color:red} .q{} b q{} a > q{} #q{} .x{width:7px} q b{} b{order:1}")
	l := make([]sheet.Placed, api.MaxRules)
	for i := range l {
		l[i] = few[i%5]
	}
	copy(l[api.MaxRules-4:], few[4:])
	p := page{t, chain(t, api.MaxDepth)}.set(api.MaxDepth, "class", "x")
	gets(t, p, api.MaxDepth, l, "order", "1")
	gets(t, p, api.MaxDepth, l, "width", "7px")
	gets(t, p, api.MaxDepth-1, l, "order", "0")
	is(t, "Entries", Entries(p.doc, api.MaxDepth, l), []cascade.Entry{of("width", "7px", 3, false, api.Spec{B: 1}, api.MaxRules-3), of("order", "1", 3, false, api.Spec{C: 1}, api.MaxRules-1)})
	for i := range l {
		l[i] = few[7]
	}
	got := Entries(p.doc, 2, l)
	is(t, "all of them", []any{len(got), got[0].Order, got[len(got)-1].Order}, []any{api.MaxRules, 0, api.MaxRules - 1})
	gets(t, p, 2, l, "order", "1")
}

// TestNestedSelectors: rules whose Lists are nested as deep as the document's bound goes.
func TestNestedSelectors(t *testing.T) {
	p := begin(t, "a").under(1, "b")
	l := author(t, "b{color:red}")
	for range 1 << 16 {
		l[0].Rule.Selector = []api.Complex{{Parts: [][]api.Simple{{{Kind: api.Is, List: l[0].Rule.Selector}}}}}
	}
	is(t, "Entries", Entries(p.doc, 2, l), []cascade.Entry{of("color", "#ff0000", 3, false, api.Spec{C: 1}, 0)})
	gets(t, p, 1, l, "color", "#000000")
	gets(t, p, 2, l, "color", "#ff0000")
}
