package compute

import (
	"fmt"
	"math/rand"
	"testing"

	"gouache/api"
	"gouache/cascade"
	"gouache/dom"
	"gouache/sheet"
)

// none: no entries.
func none() []cascade.Entry { return nil }

// of: an entry of a rule at a place in the list of all.
func of(name, value string, origin int, important bool, spec api.Spec, order int) cascade.Entry {
	return cascade.Entry{Name: name, Value: value, Origin: origin, Important: important, Spec: spec, Order: order}
}

// TestInitial: P18.1, the Initials of the chapter's table.
func TestInitial(t *testing.T) {
	is(t, "Initial", Initial(), oInitial())
	is(t, "how many", len(Initial()), 48)
	for name, want := range map[string]string{"display": "inline", "margin-left": "0px", "border-top-width": "medium", "border-left-color": "currentcolor", "color": "#000000", "font-size": "16px", "z-index": "auto"} {
		is(t, name, Initial()[oPlace(name)], want)
	}
}

// TestEntries: P18.1, of each rule that means the element all that short tells of its declarations, with all fields.
func TestEntries(t *testing.T) {
	d := some(t)
	l := rules(t,
		css{api.Agent, "b{display:block; margin:1px 2px !important} q{color:red}"},
		css{api.User, ".x, a > b, #i b{color:#F00;x:y;color:inherit!important;width:red}"},
		css{api.Author, "c{} *{OVERFLOW:clip;border:x} .y > q, b.x{z-index:-0;font-size:10PX}"},
	)
	one, two := api.Spec{C: 1}, api.Spec{B: 1}
	want := []cascade.Entry{
		of("display", "block", 1, false, one, 0),
		of("margin-top", "1px", 1, true, one, 0),
		of("margin-right", "2px", 1, true, one, 0),
		of("margin-bottom", "1px", 1, true, one, 0),
		of("margin-left", "2px", 1, true, one, 0),
		of("color", "#ff0000", 2, false, two, 2),
		of("color", "inherit", 2, true, two, 2),
		of("overflow-x", "clip", 3, false, api.Spec{}, 4),
		of("overflow-y", "clip", 3, false, api.Spec{}, 4),
		of("z-index", "0", 3, false, api.Spec{B: 1, C: 1}, 5),
		of("font-size", "10px", 3, false, api.Spec{B: 1, C: 1}, 5),
	}
	is(t, "of 2", Entries(d, 2, l), want)
	is(t, "of 1", Entries(d, 1, l), want[7:9])
	is(t, "of none", Entries(d, 8, l), none())
}

// TestBestOfSelectors: P18.1, Spec is that of the most specific selector that means the element, not of others of the rule.
func TestBestOfSelectors(t *testing.T) {
	d := some(t)
	for text, want := range map[string]api.Spec{
		"*":                       {},
		"*, c":                    {C: 1},
		"c, *":                    {C: 1},
		"c, .x, *, b > c":         {B: 1},
		"#i, c":                   {C: 1},
		"#i c, .x > .y.x, a b c":  {B: 3},
		":is(#i, c)":              {A: 1},
		":where(#i, c), *":        {},
		"q, .q, #q, c:not(#q, b)": {A: 1, C: 1},
		"a b c, [k=v]":            {B: 1},
		"c, c, c":                 {C: 1},
	} {
		is(t, text, Entries(d, 4, author(t, text+"{order:1}")), []cascade.Entry{of("order", "1", api.Author, false, want, 0)})
	}
}

// TestOrderIsThePlace: P18.1, Order is the rule's place in l: not in its sheet, nor among those that mean the element; Sheet and Index don't count.
func TestOrderIsThePlace(t *testing.T) {
	d := some(t)
	l := rules(t, css{api.Author, "q{order:0} b{order:1} q{order:2}"}, css{api.Author, "b{order:3} q{} b{order:5}"})
	tell := func(l []sheet.Placed) string {
		out := ""
		for _, e := range Entries(d, 2, l) {
			out += fmt.Sprint(e.Value, " at ", e.Order, ", ")
		}
		return out
	}
	is(t, "all", tell(l), "1 at 1, 3 at 3, 5 at 5, ")
	is(t, "from the second on", tell(l[1:]), "1 at 0, 3 at 2, 5 at 4, ")
	is(t, "from the third on", tell(l[2:]), "3 at 1, 5 at 3, ")
	is(t, "turned round", tell([]sheet.Placed{l[5], l[1], l[4], l[3]}), "5 at 0, 1 at 1, 3 at 3, ")
	is(t, "twice", tell([]sheet.Placed{l[1], l[1]}), "1 at 0, 1 at 1, ")
	for i := range l {
		l[i].Sheet, l[i].Index = 70-i, 9-i
	}
	is(t, "other numbers", tell(l), "1 at 1, 3 at 3, 5 at 5, ")
}

// TestOriginIsTheSheets: P18.1, an Origin is told as it is, also one that is none.
func TestOriginIsTheSheets(t *testing.T) {
	d := some(t)
	for _, origin := range []int{api.Agent, api.User, api.Author, 0, 4, -1} {
		l := author(t, "b{order:1!important}")
		l[0].Origin = origin
		is(t, fmt.Sprint(origin), Entries(d, 3, l), []cascade.Entry{of("order", "1", origin, true, api.Spec{C: 1}, 0)})
	}
}

// TestEntriesOfEachLonghand: P18.1, each longhand with each part of its Form and each wide word, important and not.
func TestEntriesOfEachLonghand(t *testing.T) {
	d := some(t)
	for _, p := range oProps() {
		for _, s := range append(texts(p.name), "inherit", "INITIAL", "unset", "x", "", "1px 1px") {
			for _, mark := range []string{"", "!important"} {
				l := author(t, "c{"+p.name+":"+s+mark+";width:7px}")
				is(t, p.name+":"+s+mark, Entries(d, 4, l), oEntries(d, 4, l))
			}
		}
	}
	l := author(t, "c{"+"color:red;colour:red;border:1px;COLOR:blue;--x:1;margin-start:1px}")
	is(t, "others", Entries(d, 4, l), []cascade.Entry{of("color", "#ff0000", 3, false, api.Spec{C: 1}, 0), of("color", "#0000ff", 3, false, api.Spec{C: 1}, 0)})
}

// TestNoEntries: P18.1, no rules, rules without declarations, and rules that don't mean the element.
func TestNoEntries(t *testing.T) {
	d := some(t)
	for what, l := range map[string][]sheet.Placed{
		"no rules":                nil,
		"an empty list":           {},
		"no sheets":               sheet.New().All(),
		"sheets without rules":    rules(t, css{1, ""}, css{2, "{} 1{}"}, css{3, "@x{}"}),
		"no declarations":         author(t, "*{} b{} .x{;}"),
		"declarations of nothing": author(t, "*{color:x;border:1px;margin:1px,2px}"),
		"rules of others":         author(t, "q{color:red} a > a{color:red} #q *{color:red} :root :root{color:red}"),
		"zero rules":              make([]sheet.Placed, 5),
	} {
		for id := range 9 {
			is(t, what, Entries(d, id, l), none())
		}
	}
}

// TestEntriesOfNone: P18.1, of an element that is none.
func TestEntriesOfNone(t *testing.T) {
	l := author(t, "*, :root, :not(q){color:red}")
	d := page{t, some(t)}.remove(5).doc
	for _, id := range []int{-1, 0, 5, 7, 8, 100} {
		is(t, fmt.Sprint(id), Entries(d, id, l), none())
	}
	for what, d := range unmade() {
		is(t, what, Entries(d, 1, l), none())
	}
}

// unmade: Docs that no call made.
func unmade() map[string]*dom.Doc {
	refused, _ := dom.New("")
	return map[string]*dom.Doc{"nil": nil, "zero": {}, "New's with an error": refused}
}

// TestEntriesByChance: P18.1, against the second telling.
func TestEntriesByChance(t *testing.T) {
	m := maker{rand.New(rand.NewSource(1))}
	many := 0
	for range 400 {
		d, l := m.tree(t, 30, 12), m.sheets(t, 12)
		for id := range d.Next() + 1 {
			got := Entries(d, id, l)
			is(t, "Entries", got, oEntries(d, id, l))
			many += len(got)
		}
	}
	is(t, "many were told", many > 10000, true)
}
