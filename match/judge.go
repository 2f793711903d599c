package match

import (
	"slices"

	"gouache/api"
)

// judge: one that says whom a list of selectors means. Many ways leftward lead over the same elements, so it keeps what came of each step, and the judges of the Lists within: no step is gone twice, and no List asked twice of one element.
type judge struct {
	list   []api.Complex
	known  map[step]int
	within map[spot]*judge
}

// spot: the place of a simple selector in a list.
type spot struct{ which, part, simple int }

// step: an element that might stand for a Part, or, if the Part may be farther left, for one of those from there on.
type step struct{ which, part, id int }

// What is known of a step; 0: nothing.
const (
	dead  = 1
	leads = 2 // all Parts to the left are found
)

// turn: a way that is not gone yet, and the Part that is looked for there.
type turn struct {
	part int
	way  way
}

// fork: a step that was gone, and the turns that are left there.
type fork struct {
	step  step
	turns []turn
}

// means: is one of the list true?
func (j *judge) means(at stand) bool {
	for which := range j.list {
		if j.meansBy(which, at) {
			return true
		}
	}
	return false
}

// meansBy: is that one of the list true?
func (j *judge) meansBy(which int, at stand) bool {
	c := j.list[which]
	last := len(c.Parts) - 1
	if !whole(c) || !j.compound(which, last, at) {
		return false
	}
	return last == 0 || j.search(which, turn{last - 1, at.leftward(c.Combs[last-1])})
}

// whole: are there Parts, and combs between them?
func whole(c api.Complex) bool {
	none := func(comb int) bool { return comb < api.Descendant || comb > api.Later }
	return len(c.Parts) > 0 && len(c.Combs) == len(c.Parts)-1 && !slices.ContainsFunc(c.Combs, none)
}

// search: are there elements for all Parts, from the one on that a turn looks for? Forks stand in a list, not in calls, since ways may be long; the first one is of no step, as no element has number 0.
func (j *judge) search(which int, first turn) bool {
	path := []fork{{turns: []turn{first}}}
	for len(path) > 0 {
		last := len(path) - 1
		now, ok := path[last].next()
		if !ok {
			path = path[:last]
			continue
		}
		at, ok := now.way()
		if !ok {
			continue
		}
		s := step{which, now.part, at.node.Id}
		if j.known[s] == 0 {
			f, found := j.reach(s, at)
			path = append(path, f)
			if found {
				return j.found(path)
			}
		} else if j.known[s] == leads {
			return j.found(path)
		}
	}
	return false
}

// next: takes the last turn; false: none is left.
func (f *fork) next() (turn, bool) {
	last := len(f.turns) - 1
	if last < 0 {
		return turn{}, false
	}
	t := f.turns[last]
	f.turns = f.turns[:last]
	return t, true
}

// reach: goes a step; true: it ends the search. It counts as dead till a path over it is found: no way leads back to it, so nobody asks meanwhile.
func (j *judge) reach(s step, at stand) (fork, bool) {
	j.note(s, dead)
	f := fork{step: s}
	combs := j.list[s.which].Combs
	if far(combs[s.part]) {
		f.turns = append(f.turns, turn{s.part, at.leftward(combs[s.part])})
	}
	if !j.compound(s.which, s.part, at) {
		return f, false
	}
	if s.part == 0 {
		return f, true
	}
	f.turns = append(f.turns, turn{s.part - 1, at.leftward(combs[s.part-1])})
	return f, false
}

// found: all steps of a path lead to the end.
func (j *judge) found(path []fork) bool {
	for _, f := range path {
		j.note(f.step, leads)
	}
	return true
}

// note: what is known of a step.
func (j *judge) note(s step, what int) {
	if j.known == nil {
		j.known = map[step]int{}
	}
	j.known[s] = what
}

// compound: is a Part true of where it stands?
func (j *judge) compound(which, part int, at stand) bool {
	for simple, one := range j.list[which].Parts[part] {
		if !j.simple(spot{which, part, simple}, one, at) {
			return false
		}
	}
	return true
}

// simple: is a simple selector true of where it stands?
func (j *judge) simple(place spot, one api.Simple, at stand) bool {
	switch one.Kind {
	case api.Not:
		return !j.inner(place, one.List).means(at)
	case api.Is, api.Where:
		return j.inner(place, one.List).means(at)
	}
	return at.fits(one)
}

// inner: the judge of a List within.
func (j *judge) inner(place spot, l []api.Complex) *judge {
	if j.within == nil {
		j.within = map[spot]*judge{}
	}
	if j.within[place] == nil {
		j.within[place] = &judge{list: l}
	}
	return j.within[place]
}
