package sheet

import (
	"slices"

	"gouache/api"
)

// changed: what a change makes of a copy. The copy's list of sheets is its own, but the lists of rules are still the old ones: a change that means one of them puts another one in its place.
func (s *Sheets) changed(change func(c *Sheets)) *Sheets {
	c := &Sheets{slices.Clone(s.list), s.next}
	change(c)
	return c
}

// made: did a call make them?
func (s *Sheets) made() bool { return s != nil && s.next > 0 }

// sheets: the list, whoever made it.
func (s *Sheets) sheets() []sheet {
	if !s.made() {
		return nil
	}
	return s.list
}

// find: where a sheet stands in the list; the errors with which each call that means one begins.
func (s *Sheets) find(id int) (int, api.Errno) {
	if !s.made() {
		return 0, api.ErrMade
	}
	at := slices.IndexFunc(s.list, func(one sheet) bool { return one.id == id })
	if at < 0 {
		return 0, api.ErrNoNode
	}
	return at, api.OK
}

// room: how many rules more there may be.
func (s *Sheets) room() int {
	left := api.MaxRules
	for _, one := range s.list {
		left -= len(one.rules)
	}
	return left
}

// mayAdd: the rules that an Add brings, or the first thing that is wrong with it.
func (s *Sheets) mayAdd(origin int, text string) ([]api.Rule, api.Errno) {
	if !s.made() {
		return nil, api.ErrMade
	}
	if origin != api.Agent && origin != api.User && origin != api.Author {
		return nil, api.ErrRange
	}
	rules, err := Read(text)
	if err != api.OK {
		return nil, err
	}
	if len(s.list) >= api.MaxSheets || len(rules) > s.room() {
		return nil, api.ErrLimit
	}
	return rules, api.OK
}

// mayInsert: where the sheet stands and the rule that an Insert brings, or the first thing that is wrong with it.
func (s *Sheets) mayInsert(sheet, index int, text string) (int, api.Rule, api.Errno) {
	at, err := s.find(sheet)
	if err != api.OK {
		return 0, api.Rule{}, err
	}
	if index < 0 || index > len(s.list[at].rules) {
		return 0, api.Rule{}, api.ErrIndex
	}
	rule, err := readOne(text)
	if err != api.OK {
		return 0, api.Rule{}, err
	}
	if s.room() < 1 {
		return 0, api.Rule{}, api.ErrLimit
	}
	return at, rule, api.OK
}
