package compute

import (
	"fmt"
	"slices"
	"strings"
	"testing"

	"gouache/api"
	"gouache/cascade"
)

// TestGivenOfNothing: P18.2, without entries all is unset: what Inherits has the parent's value, the rest the Initial.
func TestGivenOfNothing(t *testing.T) {
	want := oInitial()
	for i, p := range oProps() {
		if p.inherits {
			want[i] = "P " + p.name
		}
	}
	is(t, "no entries", Given(marked("P"), nil), want)
	is(t, "an empty list", Given(marked("P"), []cascade.Entry{}), want)
	for name, inherits := range map[string]string{"visibility": "P visibility", "color": "P color", "font-size": "P font-size", "font-weight": "P font-weight", "line-height": "P line-height", "text-align": "P text-align", "white-space": "P white-space", "direction": "P direction", "display": "inline", "background-color": "transparent", "order": "0", "border-top-width": "medium"} {
		is(t, name, Given(marked("P"), nil)[oPlace(name)], inherits)
	}
}

// TestGivenOfEach: P18.2, each longhand alone, with a value and with each wide word; the others are unset.
func TestGivenOfEach(t *testing.T) {
	parent := marked("P")
	rest := Given(parent, nil)
	for i, p := range oProps() {
		unsets := p.initial
		if p.inherits {
			unsets = parent[i]
		}
		for value, want := range map[string]string{"inherit": parent[i], "initial": p.initial, "unset": unsets, "own": "own"} {
			is(t, p.name+":"+value, Given(parent, []cascade.Entry{entry(p.name, value)}), with(rest, p.name, want))
			important := entry(p.name, value)
			important.Important = true
			is(t, p.name+":"+value, Given(parent, []cascade.Entry{important}), with(rest, p.name, want))
		}
	}
}

// TestGivenOfAll: P18.2, all longhands at once, each with the same word, and each by turns with another one.
func TestGivenOfAll(t *testing.T) {
	parent := marked("P")
	words := []string{"inherit", "initial", "unset", "own", ""}
	for n := range words {
		var same, turns []cascade.Entry
		for i, p := range oProps() {
			same = append(same, entry(p.name, words[n]))
			turns = append(turns, entry(p.name, words[(i+n)%len(words)]))
		}
		is(t, words[n], Given(parent, same), oGiven(parent, same))
		is(t, words[n], Given(parent, turns), oGiven(parent, turns))
		slices.Reverse(turns)
		is(t, words[n], Given(parent, turns), oGiven(parent, turns))
	}
	var all []cascade.Entry
	for _, p := range oProps() {
		all = append(all, entry(p.name, "inherit"))
	}
	is(t, "inherit", Given(parent, all), parent)
}

// TestGivenByWinner: P18.2, the value is that of cascade's Winner, whatever stands ahead of it or behind it.
func TestGivenByWinner(t *testing.T) {
	better := []cascade.Entry{
		of("order", "0", 0, false, api.Spec{A: 9}, 9),
		of("order", "1", api.Agent, false, api.Spec{A: 9}, 9),
		of("order", "2", api.User, false, api.Spec{}, 0),
		of("order", "3", api.Author, false, api.Spec{C: 9}, 9),
		of("order", "4", api.Author, false, api.Spec{B: 1}, 0),
		of("order", "5", api.Author, false, api.Spec{B: 1}, 1),
		of("order", "6", api.Author, true, api.Spec{}, 0),
		of("order", "7", api.User, true, api.Spec{}, 0),
		of("order", "8", api.Agent, true, api.Spec{}, 0),
	}
	for i := range better {
		for j := range i {
			for _, l := range [][]cascade.Entry{{better[i], better[j]}, {better[j], better[i]}} {
				is(t, "order", Given(nil, l)[oPlace("order")], better[i].Value)
			}
		}
	}
	two := []cascade.Entry{entry("order", "first"), entry("order", "second")}
	is(t, "as good", Given(nil, two)[oPlace("order")], "second")
	l := append(slices.Clone(two), entry("color", "red"), entry("order", "unset"))
	is(t, "what is lost is lost", Given(nil, l), with(oInitial(), "color", "red"))
}

// TestGivenOfLists: P18.2, all lists of up to five entries that differ in all that counts, against the second telling.
func TestGivenOfLists(t *testing.T) {
	some := []cascade.Entry{
		of("color", "red", api.Author, false, api.Spec{C: 1}, 1),
		of("color", "inherit", api.Author, false, api.Spec{C: 1}, 2),
		of("color", "unset", api.Agent, true, api.Spec{}, 0),
		of("width", "inherit", api.User, true, api.Spec{}, 0),
		of("width", "7px", api.Author, true, api.Spec{A: 1}, 0),
		of("width", "unset", api.Author, false, api.Spec{A: 1}, 0),
	}
	parent := marked("P")
	for _, l := range lists(some, 5) {
		if got, want := Given(parent, l), oGiven(parent, l); !slices.Equal(got, want) {
			is(t, fmt.Sprint(l), got, want)
		}
	}
}

// TestGivenOfOtherNames: P18.2, a name that is no longhand counts for nothing, a shorthand's too.
func TestGivenOfOtherNames(t *testing.T) {
	for _, name := range []string{"", "x", "margin", "padding", "border-width", "border-style", "border-color", "overflow", "border", "Color", "COLOR", "color ", " color", "colo", "colors", "color\x00", "\xff", strings.Repeat("color", 1<<10)} {
		l := []cascade.Entry{entry(name, "7px")}
		is(t, name, Given(nil, l), oInitial())
		l = append(l, entry("color", "red"), entry(name, "inherit"))
		is(t, name, Given(nil, l), with(oInitial(), "color", "red"))
	}
}

// TestGivenAsItIs: P18.2, a value that no longhand has is told as it is; wide words are held by bytes, and what the parent has is not looked at again.
func TestGivenAsItIs(t *testing.T) {
	for _, value := range []string{"", " ", "INHERIT", "Inherit", "inherit ", " initial", "unset;", "Unset", "inherit inherit", "\xff", "\x00", "1px 2px", "q", "currentcolor", strings.Repeat("9", 1<<16)} {
		for _, name := range []string{"color", "width"} {
			is(t, name+":"+value, Given(marked("P"), []cascade.Entry{entry(name, value)})[oPlace(name)], value)
			parent := with(marked("P"), name, value)
			is(t, name+":"+value+" above", Given(parent, []cascade.Entry{entry(name, "inherit")})[oPlace(name)], value)
		}
	}
	for _, word := range []string{"inherit", "initial", "unset"} {
		parent := with(marked("P"), "color", word, "width", word)
		got := Given(parent, []cascade.Entry{entry("width", "inherit")})
		is(t, word+" above", []string{got[oPlace("color")], got[oPlace("width")]}, []string{word, word})
	}
}

// TestGivenOfNoParent: P18.2, of a parent that is none, or of another length, the Initials are taken.
func TestGivenOfNoParent(t *testing.T) {
	var all []cascade.Entry
	for _, p := range oProps() {
		all = append(all, entry(p.name, "inherit"))
	}
	is(t, "nil", []any{Given(nil, nil), Given(nil, all)}, []any{oInitial(), oInitial()})
	long := slices.Concat(marked("P"), marked("Q"), marked("R"))
	for n := range len(long) + 1 {
		parent := long[:n]
		want := oInitial()
		if n == 48 {
			want = marked("P")
		}
		is(t, fmt.Sprint(n, " values"), Given(parent, all), want)
		is(t, fmt.Sprint(n, " values, no entries"), Given(parent, nil), oGiven(parent, nil))
	}
	is(t, "very many", Given(slices.Repeat([]string{"x"}, 1<<20), all), oInitial())
}

// TestGivenByChance: P18.2, against the second telling.
func TestGivenByChance(t *testing.T) {
	m := newMaker(2)
	for range 3000 {
		var l []cascade.Entry
		for range m.Intn(60) {
			name := m.pick(names()...)
			e := of(name, m.pick("inherit", "initial", "unset", "a", "b", "c", "Unset", ""), m.Intn(5), m.Intn(4) == 0, api.Spec{A: m.Intn(2), C: m.Intn(3)}, m.Intn(4))
			l = append(l, e)
		}
		parent := marked("P")[:48-m.Intn(3)/2]
		if got, want := Given(parent, l), oGiven(parent, l); !slices.Equal(got, want) {
			is(t, fmt.Sprint(l), got, want)
		}
	}
}
