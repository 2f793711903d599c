package bucket

import (
	"maps"
	"math/rand"
	"slices"
	"testing"

	"gouache/api"
	"gouache/dom"
	"gouache/selector"
	"gouache/sheet"
)

// sel: the list of a text that must be one.
func sel(t *testing.T, s string) []api.Complex {
	t.Helper()
	l, err := selector.Text(s)
	if err != api.OK {
		t.Fatalf("%q: %v", s, err)
	}
	return l
}

// placed: rules of these selectors, as if of one sheet.
func placed(lists ...[]api.Complex) []sheet.Placed {
	var out []sheet.Placed
	for i, l := range lists {
		out = append(out, sheet.Placed{Sheet: 1, Origin: api.Author, Index: i, Rule: api.Rule{Selector: l}})
	}
	return out
}

// rules: a rule of each text.
func rules(t *testing.T, texts ...string) []sheet.Placed {
	t.Helper()
	var lists [][]api.Complex
	for _, s := range texts {
		lists = append(lists, sel(t, s))
	}
	return placed(lists...)
}

// part: a selector of one part.
func part(l ...api.Simple) api.Complex { return api.Complex{Parts: [][]api.Simple{l}} }

func tag(name string) api.Simple   { return api.Simple{Kind: api.Tag, Name: name} }
func class(name string) api.Simple { return api.Simple{Kind: api.Class, Name: name} }
func ident(name string) api.Simple { return api.Simple{Kind: api.ID, Name: name} }

// one: a tree with what the oracle says of its elements. Its calls make another one of both; the same one, if it is refused.
type one struct {
	doc  *dom.Doc
	says map[int]oNode
}

func begin(t *testing.T, tag string) one {
	t.Helper()
	d, err := dom.New(tag)
	if err != api.OK {
		t.Fatal(err)
	}
	return one{d, map[int]oNode{1: {tag: tag}}}
}

// next: what a call made, with the oracle's element changed; who is there no more is gone.
func (o one) next(d *dom.Doc, err api.Errno, id int, change func(n *oNode)) one {
	if err != api.OK {
		return o
	}
	says := maps.Clone(o.says)
	n := says[id]
	n.attrs = maps.Clone(n.attrs)
	change(&n)
	says[id] = n
	maps.DeleteFunc(says, func(k int, _ oNode) bool {
		_, ok := d.Node(k)
		return !ok
	})
	return one{d, says}
}

// under: an element behind the Kids of its Parent.
func (o one) under(parent int, tag string) one {
	p, _ := o.doc.Node(parent)
	d, id, err := o.doc.Insert(parent, len(p.Kids), tag)
	return o.next(d, err, id, func(n *oNode) { n.tag = tag })
}

func (o one) move(id, parent int) one {
	d, err := o.doc.Move(id, parent, 0)
	return o.next(d, err, id, func(*oNode) {})
}

func (o one) remove(id int) one {
	d, err := o.doc.Remove(id)
	return o.next(d, err, id, func(*oNode) {})
}

func (o one) set(id int, name, value string) one {
	d, err := o.doc.SetAttr(id, name, value)
	return o.next(d, err, id, func(n *oNode) {
		if n.attrs == nil {
			n.attrs = map[string]string{}
		}
		n.attrs[name] = value
	})
}

func (o one) drop(id int, name string) one {
	d, err := o.doc.DropAttr(id, name)
	return o.next(d, err, id, func(n *oNode) { delete(n.attrs, name) })
}

// maker makes trees and rules by chance, the same ones each time. Few names, so that many of them meet.
type maker struct{ *rand.Rand }

func newMaker(seed int64) maker { return maker{rand.New(rand.NewSource(seed))} }

func (m maker) pick(l ...string) string { return l[m.Intn(len(l))] }

func (m maker) id(o one) int {
	all := slices.Sorted(maps.Keys(o.says))
	return all[m.Intn(len(all))]
}

// step: a tree that some call makes.
func (m maker) step(o one, most int) one {
	id, to := m.id(o), m.id(o)
	switch k := m.Intn(14); {
	case k < 4 && o.doc.Len() < most:
		return o.under(to, m.pick("a", "b", "c", "x"))
	case k < 6:
		return o.move(id, to)
	case k < 12:
		return o.set(id, m.pick("id", "class", "class", "k"), m.pick("", "x", "y", "x y", "y\tx", "\nx", "x-y", "xy xy", "a", "b a c", " ", "*"))
	case k == 12 && m.Intn(3) == 0:
		return o.remove(id)
	}
	return o.drop(id, m.pick("id", "class", "k"))
}

// tree: one behind many steps.
func (m maker) tree(t *testing.T, steps, most int) one {
	t.Helper()
	o := begin(t, m.pick("a", "b"))
	for range steps {
		o = m.step(o, most)
	}
	return o
}

// simple: of all Kinds, mostly of those that have buckets.
func (m maker) simple(deep int) api.Simple {
	kind := []int{1, 1, 1, 1, 2, 2, 2, 2, 3, 3, 3, 4, 5, 6, 7, 8, 9, 10, 11, 12, 0, -3}[m.Intn(22)]
	s := api.Simple{Kind: kind}
	switch kind {
	case api.Tag:
		s.Name = m.pick("*", "*", "a", "a", "b", "c", "x", "")
	case api.Class, api.ID:
		s.Name = m.pick("x", "y", "x-y", "xy", "a", "", "*", "x y")
	case api.AttrSel:
		s.Name, s.Op, s.Value = m.pick("k", "class", "id"), m.Intn(7), m.pick("", "x", "y", "x y", "a")
	case api.Nth, api.NthLast:
		s.A, s.B = m.Intn(3)-1, m.Intn(5)-2
	case api.Not, api.Is, api.Where:
		if deep > 0 {
			s.List = m.list(deep-1, 2)
		}
	}
	switch { // at times fields that do not count
	case m.Intn(3) > 0:
	case kind > api.ID:
		s.Name = m.pick("a", "x", "q")
	case kind >= api.Tag:
		s.Op, s.Value, s.A, s.B = 1+m.Intn(8), m.pick("a", "x", "q"), 1+m.Intn(3), -1
		s.List = []api.Complex{part(tag("q"))}
	}
	return s
}

// complex: of at most so many Parts; at times one that is none.
func (m maker) complex(deep, parts int) api.Complex {
	var c api.Complex
	for i := range 1 + m.Intn(parts) {
		if i > 0 {
			c.Combs = append(c.Combs, 1+m.Intn(4))
		}
		var l []api.Simple
		for range []int{0, 1, 1, 1, 2, 2, 3, 4}[m.Intn(8)] {
			l = append(l, m.simple(deep))
		}
		c.Parts = append(c.Parts, l)
	}
	switch m.Intn(40) {
	case 0:
		c.Combs = append(c.Combs, m.Intn(7)-1)
	case 1:
		c.Parts = nil
	}
	return c
}

// list: selectors; at times none.
func (m maker) list(deep, parts int) []api.Complex {
	var out []api.Complex
	for range []int{0, 1, 1, 1, 2, 2, 3, 5}[m.Intn(8)] {
		out = append(out, m.complex(deep, parts))
	}
	return out
}

// placed: rules, at places that are not those at which they stand.
func (m maker) placed(most int) []sheet.Placed {
	var out []sheet.Placed
	for range m.Intn(most + 1) {
		out = append(out, sheet.Placed{Sheet: m.Intn(3), Origin: m.Intn(4), Index: m.Intn(9), Rule: api.Rule{Selector: m.list(2, 3)}})
	}
	return out
}
