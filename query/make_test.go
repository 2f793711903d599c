package query

import (
	"fmt"
	"math/rand"
	"slices"
	"testing"

	"gouache/api"
	"gouache/dom"
	"gouache/selector"
	"gouache/sheet"
)

// is: one thing is the other, as it is written.
func is(t *testing.T, what string, got, want any) {
	t.Helper()
	if a, b := fmt.Sprint(got), fmt.Sprint(want); a != b {
		t.Errorf("%.300s: %.500s, want %.500s", what, a, b)
	}
}

// sel: the list of a text that must be one.
func sel(t *testing.T, s string) []api.Complex {
	t.Helper()
	l, err := selector.Text(s)
	if err != api.OK {
		t.Fatalf("%q: %v", s, err)
	}
	return l
}

// placed: rules of these selectors, at places that are not those at which they stand.
func placed(lists ...[]api.Complex) []sheet.Placed {
	var out []sheet.Placed
	for i, l := range lists {
		out = append(out, sheet.Placed{Sheet: 9 - i, Origin: api.Author, Index: 100 - i, Rule: api.Rule{Selector: l}})
	}
	return out
}

// rules: a rule of each text.
func rules(t *testing.T, texts ...string) []sheet.Placed {
	t.Helper()
	var lists [][]api.Complex
	for _, s := range texts {
		lists = append(lists, sel(t, s))
	}
	return placed(lists...)
}

// part: a selector of one part.
func part(l ...api.Simple) api.Complex { return api.Complex{Parts: [][]api.Simple{l}} }

func tag(name string) api.Simple   { return api.Simple{Kind: api.Tag, Name: name} }
func class(name string) api.Simple { return api.Simple{Kind: api.Class, Name: name} }
func ident(name string) api.Simple { return api.Simple{Kind: api.ID, Name: name} }

// page: a Doc on whose making a test relies: a call that is refused ends the test.
type page struct {
	*testing.T
	doc *dom.Doc
}

func begin(t *testing.T, tag string) page {
	t.Helper()
	d, err := dom.New(tag)
	return page{t, nil}.next(d, err)
}

func (p page) next(d *dom.Doc, err api.Errno) page {
	p.Helper()
	if err != api.OK {
		p.Fatal(err)
	}
	return page{p.T, d}
}

// under: an element behind the Kids of its Parent.
func (p page) under(parent int, tag string) page {
	p.Helper()
	n, _ := p.doc.Node(parent)
	d, _, err := p.doc.Insert(parent, len(n.Kids), tag)
	return p.next(d, err)
}

func (p page) set(id int, name, value string) page {
	p.Helper()
	return p.next(p.doc.SetAttr(id, name, value))
}

func (p page) remove(id int) page {
	p.Helper()
	return p.next(p.doc.Remove(id))
}

func (p page) move(id, parent, index int) page {
	p.Helper()
	return p.next(p.doc.Move(id, parent, index))
}

// some: elements of all sorts; numbers are not in walk's order, which is someOrder.
//
//	1 a
//	  7 e #i
//	  2 b .x
//	    5 c .x.y [k=v w]
//	    6 b
//	      8 d #j.y
//	    10 c
//	  3 b #i.y
//	  4 c
//	    9 e .x
func some(t *testing.T) *dom.Doc {
	t.Helper()
	p := begin(t, "a").under(1, "b").under(1, "b").under(1, "c").under(2, "c").under(2, "b").under(1, "e").under(6, "d").under(4, "e").under(2, "c")
	p = p.move(7, 1, 0)
	p = p.set(2, "class", "x").set(5, "class", "x\ty").set(5, "k", "v w").set(8, "class", "y").set(9, "class", " x ")
	return p.set(7, "id", "i").set(3, "id", "i").set(8, "id", "j").set(3, "class", "y").doc
}

var someOrder = []int{1, 7, 2, 5, 6, 8, 10, 3, 4, 9}

// maker makes trees and selectors by chance, the same ones each time. Few names, so that many of them meet.
type maker struct{ *rand.Rand }

func newMaker(seed int64) maker { return maker{rand.New(rand.NewSource(seed))} }

func (m maker) pick(l ...string) string { return l[m.Intn(len(l))] }

func (m maker) id(d *dom.Doc) int {
	all := order(d, 1)
	return all[m.Intn(len(all))]
}

// step: a tree that some call makes; the same one, if it is refused.
func (m maker) step(d *dom.Doc, most int) *dom.Doc {
	id, to := m.id(d), m.id(d)
	n, _ := d.Node(to)
	index := m.Intn(len(n.Kids) + 1)
	switch k := m.Intn(14); {
	case k < 5 && d.Len() < most:
		d, _, _ = d.Insert(to, index, m.pick("a", "b", "c"))
	case k < 8:
		d, _ = d.Move(id, to, index)
	case k < 12:
		d, _ = d.SetAttr(id, m.pick("id", "class", "class", "k"), m.pick("", "x", "y", "x y", "y\tx", "\nx", "x-y", "a", "b a c", " ", "*"))
	case k == 12 && m.Intn(3) == 0:
		d, _ = d.Remove(id)
	default:
		d, _ = d.DropAttr(id, m.pick("id", "class", "k"))
	}
	return d
}

// tree: one behind many steps.
func (m maker) tree(t *testing.T, steps, most int) *dom.Doc {
	t.Helper()
	d := begin(t, m.pick("a", "b")).doc
	for range steps {
		d = m.step(d, most)
	}
	return d
}

// simple: one whose Lists are nested at most so deep; at times of a Kind that is none.
func (m maker) simple(deep int) api.Simple {
	kind := []int{1, 1, 1, 1, 1, 2, 2, 2, 3, 3, 4, 5, 6, 7, 8, 9, 10, 11, 5, 6, 12, 0, -3}[m.Intn(23)]
	if deep < 1 && kind >= api.Not && kind <= api.Where {
		kind = api.Tag
	}
	s := api.Simple{Kind: kind}
	switch kind {
	case api.Tag:
		s.Name = m.pick("*", "*", "a", "a", "b", "c")
	case api.Class, api.ID:
		s.Name = m.pick("x", "x", "y", "y", "x-y", "")
	case api.AttrSel:
		s.Name, s.Op, s.Value = m.pick("k", "class", "id"), m.Intn(8), m.pick("", "x", "y", "x y", "-")
	case api.Nth, api.NthLast:
		s.A, s.B = m.Intn(5)-2, m.Intn(7)-3
	case api.Not, api.Is, api.Where:
		s.List = m.list(deep-1, 3)
	}
	if m.Intn(4) == 0 && (kind < api.Not || kind > api.Where) { // a List that does not count
		s.List = []api.Complex{part(tag("q"))}
	}
	return s
}

// complex: of at most so many Parts; at times one that is none.
func (m maker) complex(deep, parts int) api.Complex {
	var c api.Complex
	for i := range 1 + m.Intn(parts) {
		if i > 0 {
			c.Combs = append(c.Combs, 1+m.Intn(4))
		}
		var l []api.Simple
		for range []int{0, 1, 1, 1, 1, 2, 3}[m.Intn(7)] {
			l = append(l, m.simple(deep))
		}
		c.Parts = append(c.Parts, l)
	}
	switch m.Intn(40) {
	case 0:
		c.Combs = append(c.Combs, m.Intn(7)-1)
	case 1:
		c.Parts = nil
	case 2:
		c.Parts = append(c.Parts, nil)
	case 3:
		for i := range c.Combs {
			c.Combs[i] = m.Intn(7) - 1
		}
	}
	return c
}

// list: selectors; at times none.
func (m maker) list(deep, parts int) []api.Complex {
	var out []api.Complex
	for range []int{0, 1, 1, 1, 2, 2, 3, 5}[m.Intn(8)] {
		out = append(out, m.complex(deep, parts))
	}
	return out
}

// placed: at most so many rules.
func (m maker) placed(most int) []sheet.Placed {
	var lists [][]api.Complex
	for range m.Intn(most + 1) {
		lists = append(lists, m.list(2, 4))
	}
	return placed(lists...)
}

// chain: elements 1 to MaxDepth, each the only Kid of the one ahead; of tags a and b by turns, and the class k with its number's last two figures.
func chain(t *testing.T) *dom.Doc {
	t.Helper()
	p := begin(t, "a")
	for id := 2; id <= api.MaxDepth; id++ {
		p = p.under(id-1, []string{"b", "a"}[id%2])
		p = p.set(id, "class", fmt.Sprint("k", id%100))
	}
	return p.doc
}

// broad: a root r with so many Kids, of tags a, b and c by turns; the last one has a Kid d.
func broad(t *testing.T, many int) *dom.Doc {
	t.Helper()
	p := begin(t, "r")
	for i := range many {
		p = p.under(1, []string{"a", "b", "c"}[i%3])
	}
	return p.under(p.doc.Next()-1, "d").doc
}

// order: an element, and all below it; nothing of none. A call that calls itself, so that it is another way than walk's.
func order(d *dom.Doc, id int) []int {
	n, ok := d.Node(id)
	if !ok {
		return nil
	}
	l := []int{id}
	for _, k := range n.Kids {
		l = append(l, order(d, k)...)
	}
	return l
}

// up: those above an element, by whose Kids it is among.
func up(d *dom.Doc, id int) []int {
	var l []int
	for _, one := range slices.Backward(order(d, 1)) {
		if one != id && slices.Contains(order(d, one), id) {
			l = append(l, one)
		}
	}
	return l
}
