package dom

import (
	"slices"
	"strings"

	"gouache/api"
	"gouache/text"
)

// find: an element as the tree has it, its lists too; the errors with which each call that changes begins.
func (d *Doc) find(id int) (api.Node, api.Errno) {
	if d == nil || d.nodes == nil {
		return api.Node{}, api.ErrMade
	}
	n, ok := d.nodes.Get(id)
	if !ok {
		return api.Node{}, api.ErrNoNode
	}
	return n, api.OK
}

// place: where an attribute is, or would be.
func place(l []api.Attr, name string) (int, bool) {
	return slices.BinarySearchFunc(l, name, func(a api.Attr, name string) int {
		return strings.Compare(a.Name, name)
	})
}

// up: an element, its Parent, and so on up to the root: as many as its depth is.
func (d *Doc) up(id int) []int {
	var l []int
	for n, err := d.find(id); err == api.OK; n, err = d.find(n.Parent) {
		l = append(l, n.Id)
	}
	return l
}

// under: an element and all below it, level by level, and how many levels there are.
func (d *Doc) under(id int) ([]int, int) {
	all, levels := []int{id}, 0
	for told := 0; told < len(all); levels++ {
		level := all[told:]
		told = len(all)
		for _, id := range level {
			n, _ := d.find(id)
			all = append(all, n.Kids...)
		}
	}
	return all, levels
}

// mayInsert: the first thing that is wrong with an Insert.
func (d *Doc) mayInsert(parent, index int, tag string) api.Errno {
	n, err := d.find(parent)
	switch {
	case err != api.OK:
		return err
	case index < 0 || index > len(n.Kids):
		return api.ErrIndex
	case !text.Name(tag):
		return api.ErrName
	case len(d.up(parent)) >= api.MaxDepth || d.next >= api.MaxNodes:
		return api.ErrLimit
	}
	return api.OK
}

// mayMove: the first thing that is wrong with a Move.
func (d *Doc) mayMove(id, parent, index int) api.Errno {
	n, err := d.find(id)
	if err != api.OK {
		return err
	}
	to, err := d.find(parent)
	if err != api.OK {
		return err
	}
	up, room := d.up(parent), len(to.Kids)
	if n.Parent == parent {
		room--
	}
	switch {
	case slices.Contains(up, id): // the root is above each parent, so it is refused here too
		return api.ErrHierarchy
	case index < 0 || index > room:
		return api.ErrIndex
	}
	if _, levels := d.under(id); len(up)+levels > api.MaxDepth {
		return api.ErrLimit
	}
	return api.OK
}
