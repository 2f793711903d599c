package selector

import (
	"slices"
	"strconv"
	"testing"

	"gouache/api"
)

const memoryText = " A#b .c:only-child > [d ~= 'e']:not( f , g + h:is(i j, *:where(#k)) ) ~ l , :nth-child(2n+1):root , m:empty:first-child.n.o.p.q[r]:is(s):is(t,u)"

// roomyValues: values with room behind each list, in which something stands.
func roomyValues(l []api.Value) []api.Value {
	var out []api.Value
	for _, v := range l {
		out = append(out, api.Value{Token: v.Token, Kids: roomyValues(v.Kids)})
	}
	room := append(slices.Clone(out), values("x,y")...)
	return room[:len(l)]
}

// stateOf: all of values, with what is in the room behind them.
func stateOf(l []api.Value) string {
	s := whole(l[:cap(l)])
	for _, v := range l {
		s += stateOf(v.Kids)
	}
	return s
}

// ruin writes other things into values, and into the room behind them.
func ruin(l []api.Value) {
	for i := range l[:cap(l)] {
		ruin(l[:cap(l)][i].Kids)
		l[:cap(l)][i] = api.Value{Token: api.Token{Kind: api.Comma, Text: "ruin"}}
	}
}

func TestParseMemory(t *testing.T) {
	l := roomyValues(values(memoryText))
	before := stateOf(l)
	want := exact(must(t, memoryText))
	got, ok := Parse(l)
	if !ok || exact(got) != want {
		t.Fatalf("Parse: %s, want %s", exact(got), want)
	}
	if stateOf(l) != before {
		t.Error("Parse changed what it was given")
	}
	again, _ := Parse(l)
	ruin(l)
	if exact(got) != want {
		t.Error("Parse kept what it was given")
	}
	apart(t, got)
	if exact(again) != want {
		t.Error("what Parse answered shares memory with what it answered ahead of that")
	}
	got, again = must(t, memoryText), must(t, memoryText)
	apart(t, got)
	if exact(again) != want {
		t.Error("what Text answered shares memory with what it answered ahead of that")
	}
}

// apart: does no list of an answer share memory with another one, its spare room included? Each is written full of its own number.
func apart(t *testing.T, l []api.Complex) {
	t.Helper()
	var complexes [][]api.Complex
	var parts [][][]api.Simple
	var simples [][]api.Simple
	var combs [][]int
	var gather func(l []api.Complex)
	gather = func(l []api.Complex) {
		complexes = append(complexes, l[:cap(l)])
		for _, c := range l {
			parts, combs = append(parts, c.Parts[:cap(c.Parts)]), append(combs, c.Combs[:cap(c.Combs)])
			for _, p := range c.Parts {
				simples = append(simples, p[:cap(p)])
				for _, s := range p {
					gather(s.List)
				}
			}
		}
	}
	gather(l)
	name := func(i int) api.Simple { return api.Simple{Name: strconv.Itoa(i)} }
	for i := range combs {
		fill(combs[i], i)
	}
	for i := range simples {
		fill(simples[i], name(i))
	}
	for i := range parts {
		fill(parts[i], []api.Simple{name(i)})
	}
	for i := range complexes {
		fill(complexes[i], api.Complex{Combs: []int{i}})
	}
	for i, one := range combs {
		for _, n := range one {
			if n != i {
				t.Fatal("Combs share memory")
			}
		}
	}
	for i, one := range simples {
		for _, s := range one {
			if s.Name != strconv.Itoa(i) {
				t.Fatal("compound selectors share memory")
			}
		}
	}
	for i, one := range parts {
		for _, p := range one {
			if p[0].Name != strconv.Itoa(i) {
				t.Fatal("Parts share memory")
			}
		}
	}
	for i, one := range complexes {
		for _, c := range one {
			if c.Combs[0] != i {
				t.Fatal("lists share memory")
			}
		}
	}
}

func fill[T any](l []T, with T) {
	for i := range l {
		l[i] = with
	}
}

// roomyList: a list with room behind each list of it, in which something stands.
func roomyList(l []api.Complex) []api.Complex {
	var out []api.Complex
	for _, c := range l {
		var parts [][]api.Simple
		for _, part := range c.Parts {
			p := append(slices.Clone(part), api.Simple{Kind: api.ID, Name: "room"})
			for i := range part {
				p[i].List = roomyList(p[i].List)
			}
			parts = append(parts, p[:len(part)])
		}
		parts = append(parts, []api.Simple{{Kind: api.ID, Name: "room"}})
		combs := append(slices.Clone(c.Combs), 4, 4)
		out = append(out, api.Complex{Parts: parts[:len(c.Parts)], Combs: combs[:len(c.Combs)]})
	}
	out = append(out, api.Complex{Combs: []int{9}})
	return out[:len(l)]
}

// listState: all of a list, with what is in the room behind the lists of it.
func listState(l []api.Complex) string {
	s := whole(l[:cap(l)])
	for _, c := range l {
		s += whole(c.Parts[:cap(c.Parts)]) + whole(c.Combs[:cap(c.Combs)])
		for _, p := range c.Parts {
			s += whole(p[:cap(p)])
			for _, one := range p {
				s += listState(one.List)
			}
		}
	}
	return s
}

// TestListMemory: the other calls change nothing, and look at nothing in the room behind.
func TestListMemory(t *testing.T) {
	plain := must(t, memoryText)
	l, other := roomyList(plain), roomyList(plain)
	before := listState(l)
	if !Good(l) || Print(l) != Print(plain) || Most(l) != Most(plain) || !Same(l, plain) || !Same(plain, l) || !Same(l, other) {
		t.Error("a list with room behind it is another one")
	}
	for i := range l {
		if Of(l[i]) != Of(plain[i]) {
			t.Errorf("Of %d with room behind it: %v", i, Of(l[i]))
		}
	}
	if listState(l) != before || listState(other) != before {
		t.Error("a call changed what it was given")
	}
}
