package model

import (
	"fmt"
	"slices"
	"strings"
	"testing"

	"gouache/api"
)

// TestPlay: answers one behind the other, refused ones and reading ones among them, where they come.
func TestPlay(t *testing.T) {
	l, err := Play("a", []api.Op{
		insert(1, 0, "b"), insert(1, 0, "b"), insert(9, 0, "b"), all(1, "b"), {}, remove(2), all(1, "b"), style(2, "color"), style(3, "color"),
		add(api.Author, "b{color:red}"), add(9, ""), add(api.User, ""), style(3, "color"), matches(3, "b,"), matches(3, "a b"), insert(3, 0, "c"), drop(1), style(4, "color"),
	})
	is(t, "error", err, api.OK)
	is(t, "answers", l, []api.Answer{
		{Id: 2}, {Id: 3}, {Err: api.ErrNoNode}, {Nodes: []int{3, 2}}, {Err: api.ErrRange}, {}, {Nodes: []int{3}}, {Err: api.ErrNoNode}, {Value: "#000000"},
		{Id: 1}, {Err: api.ErrRange}, {Id: 2}, {Value: "#ff0000"}, {Err: api.ErrSyntax}, {Yes: true}, {Id: 4}, {}, {Value: "#000000"},
	})
}

// TestPlayOfNone: no operations, no answers.
func TestPlayOfNone(t *testing.T) {
	for _, ops := range [][]api.Op{nil, {}, make([]api.Op, 0, 3)} {
		l, err := Play("a", ops)
		is(t, "none", []any{len(l), err}, []any{0, api.OK})
	}
}

// TestPlayOfOne: each sample alone.
func TestPlayOfOne(t *testing.T) {
	for _, o := range samples() {
		l, err := Play("a", []api.Op{o})
		_, a := begin(t, "a").Do(o)
		is(t, fmt.Sprintf("%.200v", o), []any{l, err}, []any{[]api.Answer{a}, api.OK})
	}
}

// TestPlayOfNoName: New's error, and no answers, whatever the operations are.
func TestPlayOfNoName(t *testing.T) {
	for _, tag := range []string{"", "A", "1", "a b", strings.Repeat("a", api.MaxName+1)} {
		for _, ops := range [][]api.Op{nil, {insert(1, 0, "b")}, samples()} {
			l, err := Play(tag, ops)
			is(t, tag, []any{len(l), err}, []any{0, api.ErrName})
		}
	}
}

// TestPlayTag: the root is what New makes of the name.
func TestPlayTag(t *testing.T) {
	l, err := Play("x-1", []api.Op{matches(1, "x-1:root"), matches(1, "a"), insert(1, 0, "a"), all(1, "x-1 > a")})
	is(t, "x-1", []any{l, err}, []any{[]api.Answer{{Yes: true}, {}, {Id: 2}, {Nodes: []int{2}}}, api.OK})
}

// TestPlayEachAnew: one Play leaves nothing to the next one.
func TestPlayEachAnew(t *testing.T) {
	ops := []api.Op{insert(1, 0, "b"), add(api.Author, "b{color:red}"), all(1, "*"), style(2, "color")}
	first, _ := Play("a", ops)
	for range 3 {
		again, err := Play("a", ops)
		is(t, "again", []any{again, err}, []any{first, api.OK})
	}
}

// TestPlayLong: many operations, whose answers are those of the second telling.
func TestPlayLong(t *testing.T) {
	for seed := range int64(20) {
		m := newMaker(seed)
		s, ops := begin(t, "a"), []api.Op(nil)
		for range 400 {
			o := m.op(s)
			s, _ = s.Do(o)
			ops = append(ops, o)
		}
		want, last := oPlay("a", ops)
		got, err := Play("a", ops)
		is(t, fmt.Sprint("seed ", seed), []any{slices.EqualFunc(got, want, Same), err}, []any{true, api.OK})
		is(t, fmt.Sprint("the last State, seed ", seed), shown(s), last.shown())
	}
}
