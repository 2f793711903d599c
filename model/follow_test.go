package model

import (
	"fmt"
	"testing"

	"gouache/api"
)

// steps: of each kind one, so that many of them may be done or refused by what was done ahead of them.
func steps() []api.Op {
	return []api.Op{
		insert(1, 0, "b"), insert(2, 0, "c"), remove(2), move(3, 1, 1), attr(2, "class", "x"), noAttr(2, "class"),
		add(api.Author, ".x{color:red} c{order:5}"), drop(1), rule(1, 1, "b{order:1}"), noRule(1, 0),
		matches(2, ".x"), all(1, "b, c"), style(2, "color"), style(3, "order"),
	}
}

// take: an operation under a State and its second telling: the same answer, the State as it was, and the very same one, if nothing was to change.
func take(t *testing.T, what string, s *State, was string, with oState, o api.Op) (*State, oState, api.Answer) {
	t.Helper()
	next, a := s.Do(o)
	then, want := with.do(o)
	if !Same(a, want) {
		t.Errorf("%s %+v: %+v, want %+v", what, o, a, want)
	}
	if got := shown(s); got != was {
		t.Errorf("%s %+v: the State was %s and is %s", what, o, was, got)
	}
	if same := want.Err != api.OK || Reads(o.Kind); (next == s) != same {
		t.Errorf("%s %+v: the same State: %v, want %v", what, o, next == s, same)
	}
	if a.Err != api.OK && !Same(a, api.Answer{Err: a.Err}) {
		t.Errorf("%s %+v: %+v has more than an error", what, o, a)
	}
	return next, then, a
}

// TestAllWays: all ways of up to four steps.
func TestAllWays(t *testing.T) {
	var try func(what string, s *State, with oState, left int)
	try = func(what string, s *State, with oState, left int) {
		was := shown(s)
		if want := with.shown(); was != want {
			t.Errorf("%s: %s, want %s", what, was, want)
		}
		if left == 0 {
			return
		}
		for i, o := range steps() {
			next, then, _ := take(t, what, s, was, with, o)
			try(fmt.Sprint(what, " ", i), next, then, left-1)
		}
	}
	with, _ := oNew("a")
	try("behind", begin(t, "a"), with, 4)
}

// TestAllUnderOne: each sample under one State, which stays as it is; and each two of them, one behind the other.
func TestAllUnderOne(t *testing.T) {
	s := some(t)
	with, was := oState{s.Doc, s.Sheets}, shown(s)
	for _, o := range samples() {
		next, then, _ := take(t, "some", s, was, with, o)
		now := shown(next)
		is(t, fmt.Sprintf("behind %.200v", o), now, then.shown())
		for _, p := range samples() {
			take(t, fmt.Sprintf("behind %.200v", o), next, now, then, p)
		}
	}
}

// looks: what a State answers to all kinds that read, of all its elements.
func looks(s *State) []api.Answer {
	var out []api.Answer
	for id := range s.Doc.Next() + 1 {
		for _, o := range []api.Op{matches(id, ".x, b:first-child"), all(id, "*"), all(id, ".x, a > c"), style(id, "color"), style(id, "font-size"), style(id, "order")} {
			_, a := s.Do(o)
			out = append(out, a)
		}
	}
	return out
}

// TestStatesOfLongAgo: by long ways, each State answers as it did when it was new, to reads and to changes.
func TestStatesOfLongAgo(t *testing.T) {
	for seed := range int64(25) {
		m := newMaker(seed)
		s := begin(t, "a")
		with := oState{s.Doc, s.Sheets}
		states, were, told := []*State{s}, []string{shown(s)}, []string{written(looks(s))}
		for n := range 150 {
			what := fmt.Sprint("seed ", seed, " step ", n)
			s, with, _ = take(t, what, s, were[len(were)-1], with, m.op(s))
			states, were, told = append(states, s), append(were, shown(s)), append(told, written(looks(s)))
			is(t, what, were[n+1], with.shown())
		}
		for i, old := range states {
			what := fmt.Sprint("seed ", seed, " State ", i)
			is(t, what, shown(old), were[i])
			is(t, what+" looks", written(looks(old)), told[i])
			take(t, what, old, were[i], oState{old.Doc, old.Sheets}, m.op(old))
		}
	}
}

// TestRefusedAndReadingChangeNothing: who leaves them out has the same answers to all others, and the same State at last.
func TestRefusedAndReadingChangeNothing(t *testing.T) {
	for seed := range int64(100) {
		m := newMaker(seed)
		s := begin(t, "a")
		var few []api.Op
		var want []api.Answer
		for range 120 {
			o := m.op(s)
			next, a := s.Do(o)
			if a.Err == api.OK && !Reads(o.Kind) {
				few, want = append(few, o), append(want, a)
			}
			s = next
		}
		got, err := Play("a", few)
		is(t, fmt.Sprint("seed ", seed), []any{got, err}, []any{want, api.OK})
		is(t, fmt.Sprint("the last State, seed ", seed), shown(begin(t, "a", few...)), shown(s))
	}
}

// TestSameOperationsSameAnswers: done again from New on, and each twice under one State.
func TestSameOperationsSameAnswers(t *testing.T) {
	for seed := range int64(100) {
		m := newMaker(seed)
		s := begin(t, "a")
		var ops []api.Op
		var want []api.Answer
		for range 120 {
			o := m.op(s)
			one, a := s.Do(o)
			other, b := s.Do(o)
			if !Same(a, b) || shown(one) != shown(other) {
				t.Errorf("seed %d: %+v: %+v and %+v", seed, o, a, b)
			}
			s, ops, want = other, append(ops, o), append(want, a)
		}
		for range 2 {
			got, err := Play("a", ops)
			is(t, fmt.Sprint("seed ", seed), []any{got, err}, []any{want, api.OK})
		}
	}
}

// TestChanceMeetsAll: the ways by chance have operations of each kind that are done, and of each that can be some that are refused.
func TestChanceMeetsAll(t *testing.T) {
	m := newMaker(1)
	s := begin(t, "a")
	done, not := map[int]int{}, map[int]int{}
	for range 20000 {
		o := m.op(s)
		next, a := s.Do(o)
		if a.Err == api.OK {
			done[o.Kind]++
		} else {
			not[o.Kind]++
		}
		if s = next; s.Doc.Next() > 40 || len(s.Sheets.All()) > 20 {
			s = begin(t, "a")
		}
	}
	for _, k := range kinds() {
		if done[k] < 20 || not[k] < 20 {
			t.Errorf("kind %d: %d done, %d refused", k, done[k], not[k])
		}
	}
}
