package dom

import (
	"fmt"
	"regexp"
	"slices"
	"testing"

	"gouache/api"
)

// The oracle: a second telling of the chapter. A tree is its root with what is in it, without numbers of parents, and is copied as a whole before anything is changed.
type oNode struct {
	id    int
	tag   string
	attrs map[string]string
	kids  []*oNode
}

// oDoc: a tree; of one that no call made the root is nil.
type oDoc struct {
	root *oNode
	next int
}

var oName = regexp.MustCompile(`\A[a-z][a-z0-9_-]{0,63}\z`)

func oNew(tag string) oDoc { return oDoc{&oNode{id: 1, tag: tag}, 2} }

func (n *oNode) copied() *oNode {
	if n == nil {
		return nil
	}
	m := &oNode{id: n.id, tag: n.tag, attrs: map[string]string{}}
	for k, v := range n.attrs {
		m.attrs[k] = v
	}
	for _, k := range n.kids {
		m.kids = append(m.kids, k.copied())
	}
	return m
}

func (o oDoc) copied() oDoc { return oDoc{o.root.copied(), o.next} }

// path: the elements from the root down to one; none, if it is not there.
func (n *oNode) path(id int) []*oNode {
	if n == nil {
		return nil
	}
	if n.id == id {
		return []*oNode{n}
	}
	for _, k := range n.kids {
		if p := k.path(id); p != nil {
			return append([]*oNode{n}, p...)
		}
	}
	return nil
}

func (n *oNode) height() int {
	most := 0
	for _, k := range n.kids {
		most = max(most, k.height())
	}
	return most + 1
}

func (n *oNode) count() int {
	if n == nil {
		return 0
	}
	all := 1
	for _, k := range n.kids {
		all += k.count()
	}
	return all
}

// where: an element and its parent; nil, where there is none.
func (o oDoc) where(id int) (n, parent *oNode) {
	p := o.root.path(id)
	if len(p) > 0 {
		n = p[len(p)-1]
	}
	if len(p) > 1 {
		parent = p[len(p)-2]
	}
	return n, parent
}

// without: the Kids but one.
func (n *oNode) without(id int) []*oNode {
	var l []*oNode
	for _, k := range n.kids {
		if k.id != id {
			l = append(l, k)
		}
	}
	return l
}

// put: a Kid at its place among those but itself.
func (n *oNode) put(k *oNode, index int) {
	l := append([]*oNode{}, n.without(k.id)[:index]...)
	n.kids = append(append(l, k), n.without(k.id)[index:]...)
}

// rule: an error, and whether it holds. A rule is asked only where those ahead of it do not hold.
type rule struct {
	err   api.Errno
	holds func() bool
}

func firstOf(l ...rule) api.Errno {
	for _, r := range l {
		if r.holds() {
			return r.err
		}
	}
	return api.OK
}

func (o oDoc) unmade() rule { return rule{api.ErrMade, func() bool { return o.root == nil }} }

func (o oDoc) none(id int) rule {
	return rule{api.ErrNoNode, func() bool { return o.root.path(id) == nil }}
}

func noName(s string) rule { return rule{api.ErrName, func() bool { return !oName.MatchString(s) }} }

func (o oDoc) insert(parent, index int, tag string) (oDoc, int, api.Errno) {
	p, _ := o.where(parent)
	err := firstOf(o.unmade(), o.none(parent),
		rule{api.ErrIndex, func() bool { return index < 0 || index > len(p.kids) }},
		noName(tag),
		rule{api.ErrLimit, func() bool { return len(o.root.path(parent))+1 > 512 || o.next == 1048576 }})
	if err != api.OK {
		return o, 0, err
	}
	c := o.copied()
	p, _ = c.where(parent)
	p.put(&oNode{id: c.next, tag: tag}, index)
	c.next++
	return c, o.next, api.OK
}

func (o oDoc) remove(id int) (oDoc, api.Errno) {
	err := firstOf(o.unmade(), o.none(id), rule{api.ErrHierarchy, func() bool { return o.root.id == id }})
	if err != api.OK {
		return o, err
	}
	c := o.copied()
	_, p := c.where(id)
	p.kids = p.without(id)
	return c, api.OK
}

func (o oDoc) move(id, parent, index int) (oDoc, api.Errno) {
	n, _ := o.where(id)
	p, _ := o.where(parent)
	err := firstOf(o.unmade(), o.none(id), o.none(parent),
		rule{api.ErrHierarchy, func() bool { return n == o.root || n.path(parent) != nil }},
		rule{api.ErrIndex, func() bool { return index < 0 || index > len(p.without(id)) }},
		rule{api.ErrLimit, func() bool { return len(o.root.path(parent))+n.height() > 512 }})
	if err != api.OK {
		return o, err
	}
	c := o.copied()
	n, from := c.where(id)
	to, _ := c.where(parent)
	from.kids = from.without(id)
	to.put(n, index)
	return c, api.OK
}

func (o oDoc) setAttr(id int, name, value string) (oDoc, api.Errno) {
	n, _ := o.where(id)
	err := firstOf(o.unmade(), o.none(id), noName(name),
		rule{api.ErrText, func() bool { return len(value) > 1000 }},
		rule{api.ErrLimit, func() bool {
			_, has := n.attrs[name]
			return !has && len(n.attrs) == 16
		}})
	if err != api.OK {
		return o, err
	}
	c := o.copied()
	n, _ = c.where(id)
	n.attrs[name] = value
	return c, api.OK
}

func (o oDoc) dropAttr(id int, name string) (oDoc, api.Errno) {
	n, _ := o.where(id)
	err := firstOf(o.unmade(), o.none(id), rule{api.ErrName, func() bool {
		_, has := n.attrs[name]
		return !has
	}})
	if err != api.OK {
		return o, err
	}
	c := o.copied()
	n, _ = c.where(id)
	delete(n.attrs, name)
	return c, api.OK
}

// node: what Node answers, as a text.
func (o oDoc) node(id int) string {
	n, p := o.where(id)
	if n == nil {
		return showNode(api.Node{}, false)
	}
	a := api.Node{Id: n.id, Tag: n.tag}
	if p != nil {
		a.Parent = p.id
	}
	for _, k := range n.kids {
		a.Kids = append(a.Kids, k.id)
	}
	for k := range n.attrs {
		a.Attrs = append(a.Attrs, api.Attr{Name: k, Value: n.attrs[k]})
	}
	slices.SortFunc(a.Attrs, func(a, b api.Attr) int {
		if a.Name < b.Name {
			return -1
		}
		return 1
	})
	return showNode(a, true)
}

func (o oDoc) attr(id int, name string) (string, bool) {
	n, _ := o.where(id)
	if n == nil {
		return "", false
	}
	v, ok := n.attrs[name]
	return v, ok
}

func showNode(n api.Node, ok bool) string {
	return fmt.Sprintf("%d %q %d %v %q %v", n.Id, n.Tag, n.Parent, n.Kids, n.Attrs, ok)
}

// agree: a tree is what the oracle says, asked for all numbers up to the next one, and some beyond.
func agree(t *testing.T, what string, d *Doc, o oDoc) {
	t.Helper()
	if d.Len() != o.root.count() || d.Next() != o.next {
		t.Fatalf("%s: Len %d, Next %d, want %d, %d", what, d.Len(), d.Next(), o.root.count(), o.next)
	}
	for id := -1; id <= o.next+1; id++ {
		n, ok := d.Node(id)
		if got, want := showNode(n, ok), o.node(id); got != want {
			t.Fatalf("%s: Node(%d) %s, want %s", what, id, got, want)
		}
		for _, name := range []string{"a", "b", "class", ""} {
			got, ok := d.Attr(id, name)
			want, has := o.attr(id, name)
			if got != want || ok != has {
				t.Fatalf("%s: Attr(%d, %q) %q %v, want %q %v", what, id, name, got, ok, want, has)
			}
		}
	}
	eachOnce(t, what, d)
}

// eachOnce: each element but the root is a Kid of its Parent, once, and no other one is a Kid of anyone (P7.4).
func eachOnce(t *testing.T, what string, d *Doc) {
	t.Helper()
	kids, there := map[int]int{}, 0
	for id := range d.Next() {
		n, ok := d.Node(id)
		if !ok {
			continue
		}
		there++
		for _, k := range n.Kids {
			kids[k]++
			if m, ok := d.Node(k); !ok || m.Parent != id || kids[k] > 1 {
				t.Fatalf("%s: %d is a Kid of %d: there %v, Parent %d, %d times", what, k, id, ok, m.Parent, kids[k])
			}
		}
	}
	if there > 0 && len(kids) != there-1 || there != d.Len() {
		t.Fatalf("%s: %d elements (Len %d), %d are Kids", what, there, d.Len(), len(kids))
	}
}
