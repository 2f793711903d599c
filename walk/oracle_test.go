package walk

import (
	"fmt"
	"math"
	"slices"
	"testing"

	"gouache/api"
	"gouache/dom"
)

// The oracle: a second telling of the chapter. A tree is its root with what is in it, without numbers of parents, and all that is asked is told by going over it from the root down.
type oNode struct {
	id   int
	kids []*oNode
}

func (n *oNode) copied() *oNode {
	m := &oNode{id: n.id}
	for _, k := range n.kids {
		m.kids = append(m.kids, k.copied())
	}
	return m
}

// order: an element, and what is in it.
func (n *oNode) order() []int {
	l := []int{n.id}
	for _, k := range n.kids {
		l = append(l, k.order()...)
	}
	return l
}

// path: the elements from the root down to one; none, if it is not there.
func (n *oNode) path(id int) []*oNode {
	if n.id == id {
		return []*oNode{n}
	}
	for _, k := range n.kids {
		if p := k.path(id); p != nil {
			return append([]*oNode{n}, p...)
		}
	}
	return nil
}

func (n *oNode) without(id int) []*oNode {
	return slices.DeleteFunc(slices.Clone(n.kids), func(k *oNode) bool { return k.id == id })
}

// told: all that walk tells of one element.
type told struct {
	under, up            []int
	depth, place, behind int
	before, after        int
}

// says: what the oracle says of an element.
func (n *oNode) says(id int) told {
	p := n.path(id)
	if p == nil {
		return told{}
	}
	w := told{under: p[len(p)-1].order(), depth: len(p), place: 1, behind: 1}
	for _, above := range p[:len(p)-1] {
		w.up = append([]int{above.id}, w.up...)
	}
	if len(p) == 1 {
		return w
	}
	seen := false
	w.place, w.behind = 0, 0
	for _, k := range p[len(p)-2].kids {
		seen = seen || k.id == id
		switch {
		case !seen:
			w.place++
			w.before = k.id
		case k.id == id:
			w.place, w.behind = w.place+1, w.behind+1
		default:
			w.behind++
			if w.after == 0 {
				w.after = k.id
			}
		}
	}
	return w
}

// compare: by places in the order of all.
func compare(order []int, a, b int) int {
	i, k := slices.Index(order, a), slices.Index(order, b)
	switch {
	case i < 0 || k < 0 || i == k:
		return 0
	case i < k:
		return -1
	}
	return 1
}

// tells: what walk tells of an element.
func tells(d *dom.Doc, id int) told {
	w := told{under: slices.Collect(Under(d, id)), up: Up(d, id), depth: Depth(d, id), before: Before(d, id), after: After(d, id)}
	w.place, w.behind = Place(d, id)
	return w
}

var farNumbers = []int{math.MinInt, math.MinInt + 1, -1 << 20, -2, -1, 0, 1 << 16, 1<<20 - 1, 1 << 20, 1<<20 + 1, 1<<20 + 2, 1<<32 + 1, math.MaxInt - 1, math.MaxInt}

// agree: walk tells what the oracle says, asked for all numbers up to the next one, and others.
func agree(t *testing.T, what string, d *dom.Doc, o *oNode) {
	t.Helper()
	order := o.order()
	if got := Order(d); !slices.Equal(got, order) {
		t.Fatalf("%s: Order %v, want %v", what, got, order)
	}
	var ids []int
	for id := -1; id <= d.Next()+1; id++ {
		ids = append(ids, id)
		if got, want := fmt.Sprintf("%+v", tells(d, id)), fmt.Sprintf("%+v", o.says(id)); got != want {
			t.Fatalf("%s: of %d:\n%s, want\n%s", what, id, got, want)
		}
	}
	for _, a := range ids {
		for _, b := range ids {
			if got, want := Compare(d, a, b), compare(order, a, b); got != want {
				t.Fatalf("%s: Compare(%d, %d) %d, want %d", what, a, b, got, want)
			}
		}
	}
	follows(t, what, d)
}

// follows: P8.3, by walk's own answers.
func follows(t *testing.T, what string, d *dom.Doc) {
	t.Helper()
	order := Order(d)
	count := map[int]int{}
	for _, id := range order {
		count[id]++
	}
	there := 0
	for id := range d.Next() {
		_, ok := d.Node(id)
		if ok {
			there++
		}
		if ok && count[id] != 1 || !ok && count[id] != 0 {
			t.Fatalf("%s: Order has %d %d times; it is there: %v", what, id, count[id], ok)
		}
	}
	if len(order) != there || there != d.Len() {
		t.Fatalf("%s: Order has %d, %d are there, Len %d", what, len(order), there, d.Len())
	}
	below := map[int][]int{}
	for _, k := range order {
		for _, id := range Up(d, k) {
			below[id] = append(below[id], k)
		}
	}
	for _, id := range order {
		under := slices.Collect(Under(d, id))
		if len(under) == 0 || under[0] != id || !slices.Equal(under[1:], below[id]) {
			t.Fatalf("%s: Under %d: %v, but those whose Up has it: %v", what, id, under, below[id])
		}
	}
}

// one: a tree with what the oracle says of it. The calls change both, and tell whether they may.
type one struct {
	doc  *dom.Doc
	says *oNode
}

func begin(t *testing.T) one {
	t.Helper()
	d, err := dom.New("r")
	if err != api.OK {
		t.Fatal(err)
	}
	return one{d, &oNode{id: 1}}
}

func (o one) insert(parent, index int) (one, bool) {
	d, id, err := o.doc.Insert(parent, index, "k")
	if err != api.OK {
		return o, false
	}
	says := o.says.copied()
	p := says.path(parent)
	to := p[len(p)-1]
	to.kids = slices.Insert(to.kids, index, &oNode{id: id})
	return one{d, says}, true
}

// taken: a copy of the oracle's without an element, and that one.
func (o one) taken(id int) (*oNode, *oNode) {
	says := o.says.copied()
	p := says.path(id)
	from := p[len(p)-2]
	from.kids = from.without(id)
	return says, p[len(p)-1]
}

func (o one) remove(id int) (one, bool) {
	d, err := o.doc.Remove(id)
	if err != api.OK {
		return o, false
	}
	says, _ := o.taken(id)
	return one{d, says}, true
}

func (o one) move(id, parent, index int) (one, bool) {
	d, err := o.doc.Move(id, parent, index)
	if err != api.OK {
		return o, false
	}
	says, n := o.taken(id)
	p := says.path(parent)
	to := p[len(p)-1]
	to.kids = slices.Insert(to.kids, index, n)
	return one{d, says}, true
}
