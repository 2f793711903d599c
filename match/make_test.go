package match

import (
	"math/rand"
	"slices"
	"testing"

	"gouache/api"
	"gouache/dom"
	"gouache/selector"
)

// sel: the list of a text that must be one.
func sel(t *testing.T, s string) []api.Complex {
	t.Helper()
	l, err := selector.Text(s)
	if err != api.OK {
		t.Fatalf("%q: %v", s, err)
	}
	return l
}

// one: a tree with what the oracle says of it. Its calls make another one of both; the same one, if it is refused.
type one struct {
	doc  *dom.Doc
	says *oNode
}

func begin(t *testing.T, tag string) one {
	t.Helper()
	d, err := dom.New(tag)
	if err != api.OK {
		t.Fatal(err)
	}
	return one{d, &oNode{id: 1, tag: tag}}
}

func (o one) insert(parent, index int, tag string) one {
	d, id, err := o.doc.Insert(parent, index, tag)
	if err != api.OK {
		return o
	}
	says := o.says.copied()
	p, _ := says.find(parent)
	p.kids = slices.Insert(p.kids, index, &oNode{id: id, tag: tag, attrs: map[string]string{}})
	return one{d, says}
}

// under: an element behind the Kids of its Parent.
func (o one) under(parent int, tag string) one {
	p, _ := o.says.find(parent)
	return o.insert(parent, len(p.kids), tag)
}

// taken: a copy of the oracle's without an element, and that one.
func (o one) taken(id int) (*oNode, *oNode) {
	says := o.says.copied()
	n, p := says.find(id)
	p.kids = slices.DeleteFunc(p.kids, func(k *oNode) bool { return k == n })
	return says, n
}

func (o one) remove(id int) one {
	d, err := o.doc.Remove(id)
	if err != api.OK {
		return o
	}
	says, _ := o.taken(id)
	return one{d, says}
}

func (o one) move(id, parent, index int) one {
	d, err := o.doc.Move(id, parent, index)
	if err != api.OK {
		return o
	}
	says, n := o.taken(id)
	p, _ := says.find(parent)
	p.kids = slices.Insert(p.kids, index, n)
	return one{d, says}
}

func (o one) set(id int, name, value string) one {
	d, err := o.doc.SetAttr(id, name, value)
	if err != api.OK {
		return o
	}
	says := o.says.copied()
	n, _ := says.find(id)
	n.attrs[name] = value
	return one{d, says}
}

func (o one) drop(id int, name string) one {
	d, err := o.doc.DropAttr(id, name)
	if err != api.OK {
		return o
	}
	says := o.says.copied()
	n, _ := says.find(id)
	delete(n.attrs, name)
	return one{d, says}
}

// maker makes trees and selectors by chance, the same ones each time. Few names, so that many of them meet.
type maker struct{ *rand.Rand }

func newMaker(seed int64) maker { return maker{rand.New(rand.NewSource(seed))} }

func (m maker) pick(l ...string) string { return l[m.Intn(len(l))] }

func (m maker) id(o one) int {
	all := o.says.all()
	return all[m.Intn(len(all))].id
}

// step: a tree that some call makes.
func (m maker) step(o one, most int) one {
	id, to := m.id(o), m.id(o)
	p, _ := o.says.find(to)
	index := m.Intn(len(p.kids) + 1)
	switch k := m.Intn(12); {
	case k < 5 && o.doc.Len() < most:
		return o.insert(to, index, m.pick("a", "b", "c"))
	case k < 8:
		return o.move(id, to, index)
	case k < 11:
		name := m.pick("id", "class", "k")
		return o.set(id, name, m.pick("", "x", "y", "x y", "y\tx", "\nx", "x-y", "xy", "-", " "))
	case k == 11 && m.Intn(3) == 0:
		return o.remove(id)
	}
	return o.drop(id, m.pick("id", "class", "k"))
}

// tree: one behind many steps.
func (m maker) tree(t *testing.T, steps, most int) one {
	o := begin(t, m.pick("a", "b"))
	for range steps {
		o = m.step(o, most)
	}
	return o
}

// simple: one whose Lists are nested at most so deep.
func (m maker) simple(deep int) api.Simple {
	kind := []int{1, 1, 1, 2, 3, 4, 5, 6, 7, 8, 9, 10, 11, 5, 6}[m.Intn(15)]
	if deep < 1 && kind >= api.Not && kind <= api.Where {
		kind = api.Tag
	}
	s := api.Simple{Kind: kind}
	switch kind {
	case api.Tag:
		s.Name = m.pick("*", "*", "a", "a", "b", "c")
	case api.Class, api.ID:
		s.Name = m.pick("x", "y", "x-y", "")
	case api.AttrSel:
		s.Name, s.Op, s.Value = m.pick("k", "class", "id"), m.Intn(7), m.pick("", "x", "y", "x y", "-")
	case api.Nth, api.NthLast:
		s.A, s.B = m.Intn(5)-2, m.Intn(7)-3
	case api.Not, api.Is, api.Where:
		s.List = m.list(deep-1, 3)
	}
	return s
}

// list: complex ones of at most so many Parts; at times of none.
func (m maker) list(deep, parts int) []api.Complex {
	var out []api.Complex
	for range []int{0, 1, 2, 2, 3, 3}[m.Intn(6)] {
		var c api.Complex
		for i := range 1 + m.Intn(parts) {
			if i > 0 {
				c.Combs = append(c.Combs, 1+m.Intn(4))
			}
			var part []api.Simple
			for range []int{0, 1, 1, 1, 1, 2}[m.Intn(6)] {
				part = append(part, m.simple(deep))
			}
			c.Parts = append(c.Parts, part)
		}
		if m.Intn(30) == 0 { // one that is none
			c.Combs = append(c.Combs, m.Intn(7)-1)
		}
		out = append(out, c)
	}
	return out
}
