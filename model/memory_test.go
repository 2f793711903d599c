package model

import (
	"fmt"
	"slices"
	"strings"
	"testing"

	"gouache/api"
)

// spoil: a list is written over, with the room behind it.
func spoil[T any](l []T, with T) {
	l = l[:cap(l)]
	for i := range l {
		l[i] = with
	}
}

// TestNodesAreNew: who writes over what is told, or behind its end, changes neither the State nor another answer.
func TestNodesAreNew(t *testing.T) {
	s := some(t)
	was := shown(s)
	for _, o := range []api.Op{all(1, "*"), all(2, "*"), all(1, ".x, b"), all(7, "*")} {
		_, want := s.Do(o)
		text := written(want)
		_, a := s.Do(o)
		_, b := s.Do(o)
		spoil(a.Nodes, 99)
		_ = append(a.Nodes, 99)
		is(t, "another answer", b, want)
		_, c := s.Do(o)
		is(t, "a later answer", written(c), text)
		is(t, "the State", shown(s), was)
		for _, id := range b.Nodes[len(b.Nodes):cap(b.Nodes)] {
			is(t, "spare room", id, 0)
		}
	}
}

// TestPlaysAnswersAreNew: no two Nodes share memory, and no two Plays do.
func TestPlaysAnswersAreNew(t *testing.T) {
	ops := []api.Op{insert(1, 0, "b"), insert(1, 0, "b"), all(1, "*"), all(1, "b"), all(1, "*"), remove(2), all(1, "*"), {}}
	want, _ := Play("a", ops)
	text := written(want)
	for i := range ops {
		l, _ := Play("a", ops)
		spoil(l[i].Nodes, 99)
		_ = append(l[i].Nodes, 99)
		for j := range ops {
			if i != j {
				is(t, fmt.Sprint("answer ", j, " behind ", i), l[j], want[j])
			}
		}
		for _, a := range l[len(l):cap(l)] {
			is(t, "spare room", a, api.Answer{})
		}
		spoil(l, api.Answer{Id: 99})
		again, _ := Play("a", ops)
		is(t, "a later Play", written(again), text)
	}
	is(t, "the first Play", written(want), text)
}

// TestOperationsStay: Play changes neither the list nor what lies behind its end, and does not look there.
func TestOperationsStay(t *testing.T) {
	m := newMaker(3)
	s := begin(t, "a")
	ops := make([]api.Op, 0, 64)
	for range 60 {
		ops = append(ops, m.op(s))
		s, _ = s.Do(ops[len(ops)-1])
	}
	short := append(slices.Clone(ops[:50]), remove(1))[:50]
	before := written(short[:cap(short)])
	got, _ := Play("a", short)
	want, _ := oPlay("a", ops[:50])
	is(t, "answers", slices.EqualFunc(got, want, Same), true)
	is(t, "the list", written(short[:cap(short)]), before)
	text := written(got)
	spoil(short, api.Op{Kind: api.OpAll, Text: "junk"})
	is(t, "what was told", written(got), text)
}

// TestTextsAreNotShared: the bytes of which an operation's texts were made may be written over behind the call.
func TestTextsAreNotShared(t *testing.T) {
	bytes := []byte("b" + "class" + "x y" + ".x{color:red}" + "b{order:3}")
	cut := func(from, to int) string { return string(bytes[from:to]) }
	s := begin(t, "a", insert(1, 0, cut(0, 1)), attr(2, cut(1, 6), cut(6, 9)), add(api.Author, cut(9, 22)), rule(1, 1, cut(22, 32)))
	was := shown(s)
	want := looks(s)
	spoil(bytes, '!')
	is(t, "the State", shown(s), was)
	is(t, "its answers", looks(s), want)
	for _, part := range []string{"b", "class", "x y", "color", "order"} {
		is(t, part, strings.Contains(was, part), true)
	}
}

// TestStatesAreNew: who writes over the State that Do told changes no other one.
func TestStatesAreNew(t *testing.T) {
	for _, o := range samples() {
		s := some(t)
		was := shown(s)
		next, a := s.Do(o)
		if next == s {
			continue
		}
		other, _ := s.Do(o)
		then := shown(other)
		next.Doc, next.Sheets = nil, nil
		is(t, fmt.Sprintf("the State of %.200v", o), shown(s), was)
		is(t, fmt.Sprintf("another State of %.200v", o), shown(other), then)
		is(t, fmt.Sprintf("%.200v", o), a.Err, api.OK)
		s.Doc, s.Sheets = nil, nil
		is(t, fmt.Sprintf("behind the State of %.200v", o), shown(other), then)
	}
}

// TestSameChangesNothing: neither the Nodes nor the room behind them.
func TestSameChangesNothing(t *testing.T) {
	one, other := []int{3, 1, 2, 9}, []int{3, 1, 2, 8}
	Same(api.Answer{Nodes: one[:3]}, api.Answer{Nodes: other[:3]})
	Same(api.Answer{Nodes: one[:2]}, api.Answer{Nodes: other[:3]})
	is(t, "lists", []any{one, other}, []any{[]int{3, 1, 2, 9}, []int{3, 1, 2, 8}})
}
