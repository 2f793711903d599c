package model

import (
	"slices"

	"gouache/api"
	"gouache/compute"
	"gouache/dom"
	"gouache/match"
	"gouache/prop"
	"gouache/selector"
	"gouache/sheet"
)

// oState: a second telling: a tree and sheets as values beside each other; who asks goes over the elements by himself.
type oState struct {
	doc    *dom.Doc
	sheets *sheet.Sheets
}

func oNew(tag string) (oState, api.Errno) {
	d, err := dom.New(tag)
	return oState{d, sheet.New()}, err
}

// do: the next state, and the answer. Each call below is made at a copy, which takes the place of the state only where there is no error.
func (s oState) do(o api.Op) (oState, api.Answer) {
	next, a := s, api.Answer{}
	ask := func(tell func(l []api.Complex)) {
		l, err := selector.Text(o.Text)
		if !slices.Contains(s.order(1), o.Node) {
			err = api.ErrNoNode
		}
		if a.Err = err; err == api.OK {
			tell(l)
		}
	}
	switch o.Kind {
	case 1:
		next.doc, a.Id, a.Err = s.doc.Insert(o.Node, o.Index, o.Name)
	case 2:
		next.doc, a.Err = s.doc.Remove(o.Node)
	case 3:
		next.doc, a.Err = s.doc.Move(o.Node, o.To, o.Index)
	case 4:
		next.doc, a.Err = s.doc.SetAttr(o.Node, o.Name, o.Text)
	case 5:
		next.doc, a.Err = s.doc.DropAttr(o.Node, o.Name)
	case 6:
		next.sheets, a.Id, a.Err = s.sheets.Add(o.Origin, o.Text)
	case 7:
		next.sheets, a.Err = s.sheets.Drop(o.Sheet)
	case 8:
		next.sheets, a.Err = s.sheets.Insert(o.Sheet, o.Index, o.Text)
	case 9:
		next.sheets, a.Err = s.sheets.Delete(o.Sheet, o.Index)
	case 10:
		ask(func(l []api.Complex) { a.Yes = slices.Contains(s.meant(l), o.Node) })
	case 11:
		ask(func(l []api.Complex) { a.Nodes = s.below(o.Node, s.meant(l)) })
	case 12:
		a.Value, a.Err = s.value(o.Node, o.Name)
	default:
		a.Err = api.ErrRange
	}
	if a.Err != api.OK {
		return s, api.Answer{Err: a.Err}
	}
	return next, a
}

// order: an element and all below it.
func (s oState) order(id int) []int {
	n, ok := s.doc.Node(id)
	if !ok {
		return nil
	}
	out := []int{id}
	for _, k := range n.Kids {
		out = append(out, s.order(k)...)
	}
	return out
}

// meant: all elements whom one of a list means.
func (s oState) meant(l []api.Complex) []int {
	return slices.DeleteFunc(s.order(1), func(id int) bool {
		return !slices.ContainsFunc(l, func(c api.Complex) bool { return match.Complex(s.doc, id, c) })
	})
}

// below: those of a list that are below an element.
func (s oState) below(id int, of []int) []int {
	under := s.order(id)[1:]
	return slices.DeleteFunc(of, func(one int) bool { return !slices.Contains(under, one) })
}

func (s oState) value(id int, name string) (string, api.Errno) {
	values := compute.Style(s.doc, id, s.sheets.All())
	if values == nil {
		return "", api.ErrNoNode
	}
	for i, p := range prop.All() {
		if p.Name == name {
			return values[i], api.OK
		}
	}
	return "", api.ErrProp
}

func (s oState) shown() string { return shown(&State{s.doc, s.sheets}) }

// oPlay: all answers, and the last state.
func oPlay(tag string, ops []api.Op) ([]api.Answer, oState) {
	s, _ := oNew(tag)
	var out []api.Answer
	for _, o := range ops {
		var a api.Answer
		s, a = s.do(o)
		out = append(out, a)
	}
	return out, s
}
