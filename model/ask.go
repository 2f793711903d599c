package model

import (
	"gouache/api"
	"gouache/compute"
	"gouache/match"
	"gouache/query"
	"gouache/selector"
)

func (s *State) matches(o api.Op) (*State, api.Answer) {
	return s.selected(o, func(l []api.Complex) api.Answer {
		return api.Answer{Yes: match.List(s.Doc, o.Node, l)}
	})
}

func (s *State) all(o api.Op) (*State, api.Answer) {
	return s.selected(o, func(l []api.Complex) api.Answer {
		return api.Answer{Nodes: query.All(s.Doc, o.Node, l)}
	})
}

// selected: what is told of an element and the list of an operation's text, where both are.
func (s *State) selected(o api.Op, tell func(l []api.Complex) api.Answer) (*State, api.Answer) {
	if _, ok := s.Doc.Node(o.Node); !ok {
		return s, refusal(api.ErrNoNode)
	}
	l, err := selector.Text(o.Text)
	if err != api.OK {
		return s, refusal(err)
	}
	return s, tell(l)
}

func (s *State) style(o api.Op) (*State, api.Answer) {
	value, err := compute.Get(s.Doc, o.Node, s.Sheets.All(), o.Name)
	return s, api.Answer{Err: err, Value: value}
}
