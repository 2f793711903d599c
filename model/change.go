package model

import "gouache/api"

func (s *State) insert(o api.Op) (*State, api.Answer) {
	return s.grown(s.Doc.Insert(o.Node, o.Index, o.Name))
}

func (s *State) remove(o api.Op) (*State, api.Answer) {
	d, err := s.Doc.Remove(o.Node)
	return s.grown(d, 0, err)
}

func (s *State) move(o api.Op) (*State, api.Answer) {
	d, err := s.Doc.Move(o.Node, o.To, o.Index)
	return s.grown(d, 0, err)
}

func (s *State) setAttr(o api.Op) (*State, api.Answer) {
	d, err := s.Doc.SetAttr(o.Node, o.Name, o.Text)
	return s.grown(d, 0, err)
}

func (s *State) dropAttr(o api.Op) (*State, api.Answer) {
	d, err := s.Doc.DropAttr(o.Node, o.Name)
	return s.grown(d, 0, err)
}

func (s *State) addSheet(o api.Op) (*State, api.Answer) {
	return s.clad(s.Sheets.Add(o.Origin, o.Text))
}

func (s *State) dropSheet(o api.Op) (*State, api.Answer) {
	l, err := s.Sheets.Drop(o.Sheet)
	return s.clad(l, 0, err)
}

func (s *State) insertRule(o api.Op) (*State, api.Answer) {
	l, err := s.Sheets.Insert(o.Sheet, o.Index, o.Text)
	return s.clad(l, 0, err)
}

func (s *State) deleteRule(o api.Op) (*State, api.Answer) {
	l, err := s.Sheets.Delete(o.Sheet, o.Index)
	return s.clad(l, 0, err)
}
