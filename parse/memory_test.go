package parse

import (
	"slices"
	"strconv"
	"testing"

	"gouache/api"
)

// lists: a list of values, and all that are in it.
func lists(l []api.Value) [][]api.Value {
	out := [][]api.Value{l}
	for _, v := range l {
		out = append(out, lists(v.Kids)...)
	}
	return out
}

// apart: does no list share memory with another one, its spare room included? Each is written full of its own number.
func apart(l [][]api.Value) bool {
	for i, one := range l {
		for j := range one[:cap(one)] {
			one[:cap(one)][j] = api.Value{Token: api.Token{Unit: strconv.Itoa(i)}}
		}
	}
	for i, one := range l {
		for _, v := range one[:cap(one)] {
			if v.Token.Unit != strconv.Itoa(i) {
				return false
			}
		}
	}
	return true
}

// roomy: values with room behind each list, in which something stands.
func roomy(l []api.Value) []api.Value {
	var out []api.Value
	for _, v := range l {
		out = append(out, api.Value{Token: v.Token, Kids: roomy(v.Kids)})
	}
	room := append(slices.Clone(out), api.Value{Token: api.Token{Text: "room"}}, api.Value{Token: api.Token{Text: "room"}})
	return room[:len(l)]
}

// state: all of values, with what is in the room behind them.
func state(l []api.Value) string {
	s := whole(l)
	for _, one := range lists(l) {
		s += whole(one[:cap(one)])
	}
	return s
}

// answers: all lists that the calls on values answer, and what they say.
func answers(l []api.Value) ([][]api.Value, string) {
	var all [][]api.Value
	rules, decls, trim := Rules(l), Decls(l), Trim(l)
	for _, b := range rules {
		all = append(append(all, lists(b.Prelude)...), lists(b.Body)...)
	}
	for _, d := range decls {
		all = append(all, lists(d.Value)...)
	}
	return append(all, lists(trim)...), whole(rules) + whole(decls) + whole(trim)
}

const memoryText = " a(b) [c]{d:e(f);g} @x;h{i{j}}{} ;a:b(c) [] !important;d:{e;f} g; h: !important;@y{z}i:j "

func TestValuesKeepsAndChangesNothing(t *testing.T) {
	room := append(cut(memoryText), api.Token{Text: "room"}, api.Token{Text: "room"})
	l := room[: len(room)-2 : len(room)]
	before := slices.Clone(room)
	got, again := Values(l), Values(l)
	if !slices.Equal(room, before) {
		t.Error("Values has changed its argument or the room behind it")
	}
	want := whole(got)
	for i := range room {
		room[i] = api.Token{Text: "other"}
	}
	if whole(got) != want || whole(again) != want {
		t.Error("Values has kept its argument")
	}
	if !apart(lists(got)) {
		t.Error("lists of one answer of Values share memory")
	}
	if whole(again) != want {
		t.Error("two answers of Values share memory")
	}
}

func TestFlatKeepsAndChangesNothing(t *testing.T) {
	l := roomy(Values(cut(memoryText)))
	before := state(l)
	got, again := Flat(l), Flat(l)
	if state(l) != before {
		t.Error("Flat has changed its argument or the room behind it")
	}
	want := slices.Clone(got)
	apart(lists(l))
	if !slices.Equal(got, want) {
		t.Error("Flat has kept its argument")
	}
	clear(got[:cap(got)])
	if !slices.Equal(again, want) {
		t.Error("two answers of Flat share memory")
	}
}

func TestTheOthersKeepAndChangeNothing(t *testing.T) {
	l := roomy(Values(cut(memoryText)))
	before := state(l)
	got, want := answers(l)
	again, _ := answers(l)
	if !Same(l, l) || state(l) != before {
		t.Error("an argument or the room behind it was changed")
	}
	kept := whole(got)
	_, more := answers(l)
	if more != want {
		t.Error("the calls do not answer the same again")
	}
	// This writes into all of the argument.
	apart(lists(l))
	if whole(got) != kept {
		t.Error("an argument was kept")
	}
	if len(got) < 20 || !apart(got) {
		t.Error("lists of an answer share memory, or there are too few")
	}
	if whole(again) != kept {
		t.Error("two answers share memory")
	}
}

// TestBlocksAndDeclsAreNew: the lists that hold them, too.
func TestBlocksAndDeclsAreNew(t *testing.T) {
	l := Values(cut("a{}b{}c{}d{};a:b;c:d;e:f"))
	rules, decls := Rules(l), Decls(l)
	wantRules, wantDecls := whole(rules), whole(decls)
	r, d := Rules(l), Decls(l)
	clear(r[:cap(r)])
	clear(d[:cap(d)])
	if whole(rules) != wantRules || whole(decls) != wantDecls || len(r) != 4 || len(d) != 3 {
		t.Error("two answers share memory")
	}
}
