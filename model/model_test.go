package model

import (
	"fmt"
	"slices"
	"strings"
	"testing"

	"gouache/api"
)

func TestNew(t *testing.T) {
	for _, tag := range []string{"a", "html", "x-1", "data_x", strings.Repeat("a", api.MaxName)} {
		s, err := New(tag)
		is(t, tag, err, api.OK)
		n, ok := s.Doc.Node(1)
		is(t, tag+": the root", []any{n, ok}, []any{api.Node{Id: 1, Tag: tag}, true})
		is(t, tag+": elements", []int{s.Doc.Len(), s.Doc.Next()}, []int{1, 2})
		_, next, _ := s.Sheets.Add(api.User, "")
		is(t, tag+": sheets", []int{len(s.Sheets.Ids()), len(s.Sheets.All()), next}, []int{0, 0, 1})
	}
}

// TestNewOfNoName: dom's error, and no State.
func TestNewOfNoName(t *testing.T) {
	for _, tag := range []string{"", " ", "A", "aB", "1", "-a", "a b", "a.b", "é", "a\x00", "\xff", strings.Repeat("a", api.MaxName+1), strings.Repeat("a", 1<<20)} {
		s, err := New(tag)
		is(t, tag, []any{s == nil, err}, []any{true, api.ErrName})
	}
}

// TestNewEach: each is one of its own.
func TestNewEach(t *testing.T) {
	one, other := begin(t, "a"), begin(t, "a")
	one.Do(insert(1, 0, "b"))
	is(t, "two", one == other || one.Doc == other.Doc || one.Sheets == other.Sheets, false)
}

func TestReads(t *testing.T) {
	for _, k := range kinds() {
		is(t, fmt.Sprint("kind ", k), Reads(k), k == 10 || k == 11 || k == 12)
	}
	for _, k := range noKinds() {
		is(t, fmt.Sprint("no kind ", k), Reads(k), false)
	}
}

// TestReadsIsWhatDoDoes: a kind that reads answers the very State, one that does not another one, where both are done.
func TestReadsIsWhatDoDoes(t *testing.T) {
	s := some(t)
	done := map[int]int{}
	for _, o := range samples() {
		next, a := s.Do(o)
		if a.Err == api.OK {
			is(t, fmt.Sprintf("%+v", o), next == s, Reads(o.Kind))
			done[o.Kind]++
		}
	}
	is(t, "kinds that were done", len(done), len(kinds()))
}

// answers: some that part from each other in one thing or more; no two are alike.
func answers() []api.Answer {
	return []api.Answer{
		{}, {Err: api.ErrNoNode}, {Err: api.ErrScript}, {Err: -1}, {Id: 1}, {Id: 2}, {Id: -1}, {Id: 1 << 32}, {Yes: true},
		{Value: "a"}, {Value: "A"}, {Value: "a "}, {Value: "\x00"}, {Value: "\xff"}, {Value: "\ufffd"},
		{Nodes: []int{0}}, {Nodes: []int{1}}, {Nodes: []int{1, 2}}, {Nodes: []int{2, 1}}, {Nodes: []int{1, 2, 3}}, {Nodes: []int{1, 1}}, {Nodes: []int{1, 2, 2}}, {Nodes: []int{1, 3}},
		{Err: api.ErrNoNode, Id: 1}, {Err: api.ErrNoNode, Yes: true}, {Err: api.ErrNoNode, Value: "a"}, {Err: api.ErrNoNode, Nodes: []int{1}},
		{Id: 1, Yes: true}, {Id: 1, Nodes: []int{1}}, {Yes: true, Value: "a"}, {Value: "a", Nodes: []int{1}},
		{Err: 1, Id: 1, Yes: true, Nodes: []int{1}, Value: "a"}, {Id: 1, Yes: true, Nodes: []int{1}, Value: "a"}, {Err: 1, Yes: true, Nodes: []int{1}, Value: "a"},
		{Err: 1, Id: 1, Nodes: []int{1}, Value: "a"}, {Err: 1, Id: 1, Yes: true, Value: "a"}, {Err: 1, Id: 1, Yes: true, Nodes: []int{1}},
	}
}

// TestSame: each with itself in other memory, and with no other one.
func TestSame(t *testing.T) {
	for i, a := range answers() {
		for j, b := range answers() {
			is(t, fmt.Sprintf("%+v and %+v", a, b), Same(a, b), i == j)
		}
	}
}

// TestSameOfEmpty: an empty list and nothing are alike, with room behind it and without; what lies there does not count.
func TestSameOfEmpty(t *testing.T) {
	room := []int{1, 2, 3}
	nodes := [][]int{nil, {}, make([]int, 0, 4), room[:0], room[3:]}
	for i, a := range nodes {
		for j, b := range nodes {
			is(t, fmt.Sprint(i, j), Same(api.Answer{Id: 1, Nodes: a}, api.Answer{Id: 1, Nodes: b}), true)
			is(t, fmt.Sprint("with another Id ", i, j), Same(api.Answer{Id: 1, Nodes: a}, api.Answer{Id: 2, Nodes: b}), false)
		}
		is(t, fmt.Sprint("not of one ", i), Same(api.Answer{Nodes: a}, api.Answer{Nodes: room[:1]}), false)
	}
	is(t, "room", Same(api.Answer{Nodes: room[:2]}, api.Answer{Nodes: []int{1, 2}}), true)
	is(t, "of long lists", Same(api.Answer{Nodes: slices.Repeat(room, 1<<18)}, api.Answer{Nodes: slices.Repeat(room, 1<<18)}), true)
	is(t, "of long lists, but the last", Same(api.Answer{Nodes: slices.Repeat(room, 1<<18)}, api.Answer{Nodes: append(slices.Repeat(room, 1<<18)[:3<<18-1], 4)}), false)
}
