package compute

import (
	"fmt"
	"slices"
	"testing"

	"gouache/api"
	"gouache/dom"
	"gouache/sheet"
)

// above: the style of an element's Parent; of the root the Initials.
func above(d *dom.Doc, id int, l []sheet.Placed) []string {
	n, _ := d.Node(id)
	if n.Parent == 0 {
		return Initial()
	}
	return Style(d, n.Parent, l)
}

// TestFixedStays: P18.5, a Style Fixed again, with the same parent, stays.
func TestFixedStays(t *testing.T) {
	m := newMaker(6)
	for range 300 {
		d, l := m.tree(t, 30, 10), m.sheets(t, 15)
		for id := range d.Next() + 1 {
			style := Style(d, id, l)
			if style == nil {
				continue
			}
			parent := above(d, id, l)
			is(t, fmt.Sprint("Fixed again, of ", id), Fix(parent, style, id == 1), style)
			is(t, fmt.Sprint("and given again, of ", id), Fix(parent, Given(parent, Entries(d, id, l)), id == 1), style)
		}
	}
}

// TestFixedOfEachStays: P18.5, of each longhand with each text of it, on an element and the one above it.
func TestFixedOfEachStays(t *testing.T) {
	d := chain(t, 2)
	for _, p := range oProps() {
		for _, s := range append(texts(p.name), "inherit", "initial", "unset") {
			l := author(t, "*{"+p.name+":"+s+"}")
			for id := 1; id < 3; id++ {
				style := Style(d, id, l)
				is(t, p.name+":"+s, Fix(above(d, id, l), style, id == 1), style)
			}
		}
	}
}

// TestFixOfFixed: P18.5, what Fix told of any values stays, Fixed again.
func TestFixOfFixed(t *testing.T) {
	m := newMaker(7)
	words := []string{"50%", "-50%", "7px", "normal", "bold", "thin", "none", "hidden", "solid", "currentcolor", "absolute", "fixed", "left", "inline", "inline-block", ""}
	for range 5000 {
		parent, given := oInitial(), oInitial()
		for i, p := range oProps() {
			parent[i], given[i] = m.pick(append(oForms(p.name), words...)...), m.pick(append(oForms(p.name), words...)...)
		}
		root := m.Intn(2) == 0
		once := Fix(parent, given, root)
		if twice := Fix(parent, once, root); !slices.Equal(once, twice) {
			is(t, fmt.Sprint(given, root), twice, once)
		}
	}
}

// TestBelowNoRule: P18.5, elements below that no rule means have what they Inherit from above, however deep they stand; the rest is as without rules.
func TestBelowNoRule(t *testing.T) {
	d := chain(t, 40)
	p := page{t, d}
	for id := 20; id <= 40; id++ {
		p = p.set(id, "class", "free")
	}
	m := newMaker(8)
	for range 60 {
		l := rules(t, css{api.Author, ":not(.free){" + m.decls(12) + "}"}, css{api.User, "a:not(.free){" + m.decls(12) + "}"})
		top := Style(p.doc, 19, l)
		plain := with(quiet(), "background-color", "transparent")
		for i, x := range oProps() {
			if x.inherits {
				plain[i] = top[i]
			}
		}
		for _, side := range sides() {
			plain = with(plain, "border-"+side+"-color", top[oPlace("color")])
		}
		for _, id := range []int{20, 21, 30, 40} {
			is(t, fmt.Sprint("of ", id), Style(p.doc, id, l), plain)
		}
	}
}

// TestAlike: P18.4, elements below the same one whom the same rules mean have the same style.
func TestAlike(t *testing.T) {
	m := newMaker(9)
	for range 100 {
		d, l := m.tree(t, 30, 12), m.sheets(t, 10)
		styles := map[string][]string{}
		for id := 2; id < d.Next(); id++ {
			n, ok := d.Node(id)
			if !ok {
				continue
			}
			key := fmt.Sprint(n.Parent, Entries(d, id, l))
			if styles[key] == nil {
				styles[key] = Style(d, id, l)
			}
			is(t, key, Style(d, id, l), styles[key])
		}
	}
}

// TestMoreRules: P18.4, rules that mean neither an element nor one above it make no difference, wherever they stand.
func TestMoreRules(t *testing.T) {
	m := newMaker(10)
	other := author(t, "q{color:red!important} q q, #q{font-size:7px!important} x > y{float:left}")
	for range 100 {
		d, l := m.tree(t, 20, 8), m.sheets(t, 10)
		place := m.Intn(len(l) + 1)
		more := slices.Concat(l[:place], other, l[place:])
		for id := range d.Next() {
			is(t, fmt.Sprint("of ", id), Style(d, id, more), Style(d, id, l))
		}
	}
}
