package match

import (
	"slices"
	"strings"

	"gouache/api"
	"gouache/dom"
	"gouache/nth"
	"gouache/walk"
)

// stand: one that stands at an element. Its place, from both ends, and the Kids among which it is are 0 and nil till they are asked for, as that may be a long list; who steps back hands them on.
type stand struct {
	doc         *dom.Doc
	node        api.Node
	first, last int
	line        []int
}

// way: a step leftward; false: there is nothing.
type way func() (stand, bool)

// standing: one that stands at an element; false: there is none.
func standing(d *dom.Doc, id int) (stand, bool) {
	n, ok := d.Node(id)
	return stand{doc: d, node: n}, ok
}

// leftward: the way on which the elements stand that a comb asks for.
func (s stand) leftward(comb int) way {
	if comb == api.Descendant || comb == api.Child {
		return s.up
	}
	return s.back
}

// far: may it be more than one step, by a comb?
func far(comb int) bool {
	return comb == api.Descendant || comb == api.Later
}

// up: to the Parent.
func (s stand) up() (stand, bool) {
	return standing(s.doc, s.node.Parent)
}

// back: to the Kid ahead.
func (s stand) back() (stand, bool) {
	s = s.placed()
	if s.first <= 1 {
		return stand{}, false
	}
	ahead, ok := standing(s.doc, s.line[s.first-2])
	ahead.first, ahead.last, ahead.line = s.first-1, s.last+1, s.line
	return ahead, ok
}

// placed: the same, with its place and its line.
func (s stand) placed() stand {
	if s.first == 0 {
		parent, _ := s.doc.Node(s.node.Parent)
		s.first, s.last = walk.Place(s.doc, s.node.Id)
		s.line = parent.Kids
	}
	return s
}

// fits: is a simple selector without a List true of the element?
func (s stand) fits(one api.Simple) bool {
	switch one.Kind {
	case api.Tag:
		return one.Name == "*" || one.Name == s.node.Tag
	case api.ID:
		return s.has("id", asked(api.Equal, one.Name))
	case api.Class:
		return s.has("class", asked(api.Word, one.Name))
	case api.AttrSel:
		return s.has(one.Name, asked(one.Op, one.Value))
	case api.Nth:
		return nth.Fits(one.A, one.B, s.placed().first)
	case api.NthLast:
		return nth.Fits(one.A, one.B, s.placed().last)
	case api.Root:
		return s.node.Parent == 0
	case api.Empty:
		return len(s.node.Kids) == 0
	}
	return false
}

// has: does the element have an attribute, and is what is asked true of its value?
func (s stand) has(name string, ask func(string) bool) bool {
	value, ok := s.doc.Attr(s.node.Id, name)
	return ok && ask(value)
}

// asked: what an operator asks of an attribute's value.
func asked(op int, value string) func(string) bool {
	switch op {
	case api.Has:
		return func(string) bool { return true }
	case api.Equal:
		return func(s string) bool { return s == value }
	case api.Word:
		return func(s string) bool { return slices.Contains(dom.Words(s), value) }
	case api.Dash:
		return func(s string) bool {
			rest, ok := strings.CutPrefix(s, value)
			return ok && (rest == "" || rest[0] == '-')
		}
	}
	return func(s string) bool { return value != "" && stands(op, s, value) }
}

// stands: does a value that is not empty stand at the place in a text that an operator names?
func stands(op int, s, value string) bool {
	switch op {
	case api.Begins:
		return strings.HasPrefix(s, value)
	case api.Ends:
		return strings.HasSuffix(s, value)
	case api.Contains:
		return strings.Contains(s, value)
	}
	return false
}
