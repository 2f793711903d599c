package bloom

import (
	"maps"
	"math/rand"
	"slices"
	"testing"

	"gouache/api"
	"gouache/dom"
	"gouache/selector"
)

// sel: the list of a text that must be one.
func sel(t *testing.T, s string) []api.Complex {
	t.Helper()
	l, err := selector.Text(s)
	if err != api.OK {
		t.Fatalf("%q: %v", s, err)
	}
	return l
}

// one: a tree with what the oracle says of it. Its calls make another one of both; the same one, if it is refused.
type one struct {
	doc  *dom.Doc
	says oTree
}

func begin(t *testing.T, tag string) one {
	t.Helper()
	d, err := dom.New(tag)
	if err != api.OK {
		t.Fatal(err)
	}
	return one{d, oTree{1: {tag: tag}}}
}

// next: what a call made, with the oracle's element changed.
func (o one) next(d *dom.Doc, err api.Errno, id int, change func(n *oNode)) one {
	if err != api.OK {
		return o
	}
	says := maps.Clone(o.says)
	n := says[id]
	n.attrs = maps.Clone(n.attrs)
	change(&n)
	says[id] = n
	return one{d, says}
}

func (o one) insert(parent, index int, tag string) one {
	d, id, err := o.doc.Insert(parent, index, tag)
	return o.next(d, err, id, func(n *oNode) { n.tag, n.parent = tag, parent })
}

func (o one) move(id, parent, index int) one {
	d, err := o.doc.Move(id, parent, index)
	return o.next(d, err, id, func(n *oNode) { n.parent = parent })
}

func (o one) set(id int, name, value string) one {
	d, err := o.doc.SetAttr(id, name, value)
	return o.next(d, err, id, func(n *oNode) {
		if n.attrs == nil {
			n.attrs = map[string]string{}
		}
		n.attrs[name] = value
	})
}

func (o one) drop(id int, name string) one {
	d, err := o.doc.DropAttr(id, name)
	return o.next(d, err, id, func(n *oNode) { delete(n.attrs, name) })
}

func (o one) remove(id int) one {
	d, err := o.doc.Remove(id)
	if err != api.OK {
		return o
	}
	says := maps.Clone(o.says)
	maps.DeleteFunc(says, func(k int, _ oNode) bool { return k == id || slices.Contains(o.says.above(k), id) })
	return one{d, says}
}

// under: an element behind the Kids of its Parent.
func (o one) under(parent int, tag string) one {
	p, _ := o.doc.Node(parent)
	return o.insert(parent, len(p.Kids), tag)
}

// maker makes trees and selectors by chance, the same ones each time. Few names, so that many of them meet.
type maker struct{ *rand.Rand }

func newMaker(seed int64) maker { return maker{rand.New(rand.NewSource(seed))} }

func (m maker) pick(l ...string) string { return l[m.Intn(len(l))] }

func (m maker) id(o one) int {
	all := slices.Sorted(maps.Keys(o.says))
	return all[m.Intn(len(all))]
}

// step: a tree that some call makes.
func (m maker) step(o one, most int) one {
	id, to := m.id(o), m.id(o)
	p, _ := o.doc.Node(to)
	index := m.Intn(len(p.Kids) + 1)
	switch k := m.Intn(12); {
	case k < 5 && o.doc.Len() < most:
		return o.insert(to, index, m.pick("a", "b", "c", "d"))
	case k < 8:
		return o.move(id, to, index)
	case k < 11:
		return o.set(id, m.pick("id", "class", "class", "k"), m.pick("", "x", "y", "x y", "y\tx", "\nx", "x-y", "xy xy", "a", "b a c", " "))
	case k == 11 && m.Intn(3) == 0:
		return o.remove(id)
	}
	return o.drop(id, m.pick("id", "class", "k"))
}

// tree: one behind many steps.
func (m maker) tree(t *testing.T, steps, most int) one {
	t.Helper()
	o := begin(t, m.pick("a", "b"))
	for range steps {
		o = m.step(o, most)
	}
	return o
}

// simple: of all Kinds, mostly of those that have keys.
func (m maker) simple(deep int) api.Simple {
	kind := []int{1, 1, 1, 1, 2, 2, 2, 3, 3, 4, 5, 6, 7, 8, 9, 10, 11, 12, 0, -3}[m.Intn(20)]
	s := api.Simple{Kind: kind}
	switch kind {
	case api.Tag:
		s.Name = m.pick("*", "a", "a", "b", "c", "d", "x")
	case api.Class, api.ID:
		s.Name = m.pick("x", "y", "x-y", "xy", "a", "", "*", "x y")
	case api.AttrSel:
		s.Name, s.Op, s.Value = m.pick("k", "class", "id"), m.Intn(7), m.pick("", "x", "y", "x y", "a")
	case api.Nth, api.NthLast:
		s.A, s.B = m.Intn(3)-1, m.Intn(5)-2
	case api.Not, api.Is, api.Where:
		for range m.Intn(3) {
			if deep > 0 {
				s.List = append(s.List, m.complex(deep-1, 3))
			}
		}
	}
	if m.Intn(3) == 0 && kind > api.ID { // a name that does not count
		s.Name = m.pick("a", "x", "q")
	}
	return s
}

// complex: of at most so many Parts; at times one that is none.
func (m maker) complex(deep, parts int) api.Complex {
	var c api.Complex
	for i := range 1 + m.Intn(parts) {
		if i > 0 {
			c.Combs = append(c.Combs, []int{1, 1, 1, 2, 2, 3, 4, 4}[m.Intn(8)])
		}
		var part []api.Simple
		for range []int{0, 1, 1, 1, 1, 2, 3}[m.Intn(7)] {
			part = append(part, m.simple(deep))
		}
		c.Parts = append(c.Parts, part)
	}
	switch m.Intn(40) {
	case 0:
		c.Combs = append(c.Combs, 1+m.Intn(2))
	case 1:
		c.Combs = c.Combs[:len(c.Combs)/2]
	case 2:
		if len(c.Combs) > 0 {
			c.Combs[m.Intn(len(c.Combs))] = []int{0, -1, 5, 1 << 32}[m.Intn(4)]
		}
	}
	return c
}
