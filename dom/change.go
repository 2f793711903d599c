package dom

import (
	"slices"

	"gouache/api"
	"gouache/trie"
)

// change: what is done to a copy of an element. The lists that the copy has are the old one's still: whoever changes one makes another list.
type change struct {
	id int
	do func(n *api.Node)
}

// changed: the elements behind changes, one behind the other.
func changed(nodes *trie.Trie[api.Node], changes ...change) *trie.Trie[api.Node] {
	for _, c := range changes {
		n, _ := nodes.Get(c.id)
		c.do(&n)
		nodes = nodes.Put(c.id, n)
	}
	return nodes
}

// begins: a new element is there.
func begins(id int, tag string, parent int) change {
	return change{id, func(n *api.Node) {
		*n = api.Node{Id: id, Tag: tag, Parent: parent}
	}}
}

// stands: an element has a parent.
func stands(id, parent int) change {
	return change{id, func(n *api.Node) {
		n.Parent = parent
	}}
}

// takes: an element has one more Kid.
func takes(id, kid, index int) change {
	return change{id, func(n *api.Node) {
		n.Kids = spliced(n.Kids, index, index, kid)
	}}
}

// gives: an element has a Kid no more.
func gives(id, kid int) change {
	return change{id, func(n *api.Node) {
		at := slices.Index(n.Kids, kid)
		n.Kids = spliced(n.Kids, at, at+1)
	}}
}

// wears: an element has an attribute of that value.
func wears(id int, name, value string) change {
	return change{id, func(n *api.Node) {
		at, has := place(n.Attrs, name)
		end := at
		if has {
			end++
		}
		n.Attrs = spliced(n.Attrs, at, end, api.Attr{Name: name, Value: value})
	}}
}

// sheds: an element has an attribute no more.
func sheds(id int, name string) change {
	return change{id, func(n *api.Node) {
		at, _ := place(n.Attrs, name)
		n.Attrs = spliced(n.Attrs, at, at+1)
	}}
}

// spliced: another list, that has others in place of those from one index to another.
func spliced[T any](l []T, from, to int, others ...T) []T {
	return slices.Concat(l[:from], others, l[to:])
}
