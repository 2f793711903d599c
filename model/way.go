package model

import (
	"gouache/api"
	"gouache/dom"
	"gouache/sheet"
)

// way: what a kind does, with a State that has a Doc and Sheets.
type way func(s *State, o api.Op) (*State, api.Answer)

// wayOf: that of a kind; nil of one that is none.
func wayOf(kind int) way {
	switch kind {
	case api.OpInsert:
		return (*State).insert
	case api.OpRemove:
		return (*State).remove
	case api.OpMove:
		return (*State).move
	case api.OpAttr:
		return (*State).setAttr
	case api.OpNoAttr:
		return (*State).dropAttr
	case api.OpSheet:
		return (*State).addSheet
	case api.OpNoSheet:
		return (*State).dropSheet
	case api.OpRule:
		return (*State).insertRule
	case api.OpNoRule:
		return (*State).deleteRule
	case api.OpMatches:
		return (*State).matches
	case api.OpAll:
		return (*State).all
	case api.OpStyle:
		return (*State).style
	}
	return nil
}

// refusal: an answer that has nothing but an error.
func refusal(err api.Errno) api.Answer { return api.Answer{Err: err} }

// grown: a State of another tree; the same one, if that is refused.
func (s *State) grown(d *dom.Doc, id int, err api.Errno) (*State, api.Answer) {
	if err != api.OK {
		return s, refusal(err)
	}
	return &State{d, s.Sheets}, api.Answer{Id: id}
}

// clad: a State of other sheets; the same one, if they are refused.
func (s *State) clad(l *sheet.Sheets, id int, err api.Errno) (*State, api.Answer) {
	if err != api.OK {
		return s, refusal(err)
	}
	return &State{s.Doc, l}, api.Answer{Id: id}
}
