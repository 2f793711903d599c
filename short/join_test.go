package short

import (
	"math/rand"
	"slices"
	"strings"
	"testing"

	"gouache/prop"
)

// TestJoin: lists that come to each number of parts, written out.
func TestJoin(t *testing.T) {
	type row struct{ l, want string }
	for _, name := range []string{"margin", "padding", "border-width", "border-style", "border-color"} {
		for _, x := range []row{
			{"a a a a", "a"},
			{"a b a b", "a b"},
			{"a b c b", "a b c"}, {"a a b a", "a a b"}, {"b a a a", "b a a"},
			{"a b c d", "a b c d"}, {"a b a c", "a b a c"}, {"a a a b", "a a a b"}, {"a b b b", "a b b"}, {"a a b b", "a a b b"}, {"a b b a", "a b b a"}, {"a b c a", "a b c a"}, {"a b c c", "a b c c"}, {"a a b c", "a a b c"}, {"a b a a", "a b a a"},
		} {
			is(t, name+" "+x.l, told(Join(name, strings.Fields(x.l))), told(x.want, true))
		}
	}
	is(t, "overflow", told(Join("overflow", []string{"a", "a"})), told("a", true))
	is(t, "overflow", told(Join("overflow", []string{"a", "b"})), told("a b", true))
	is(t, "overflow", told(Join("overflow", []string{"b", "a"})), told("b a", true))
}

// TestJoinOfValues: the values of each shorthand in all ways, wide words too, against the second telling.
func TestJoinOfValues(t *testing.T) {
	for _, s := range shorthands() {
		for _, l := range lists(append(slices.Clone(s.values), "inherit"), 4) {
			is(t, s.name, told(Join(s.name, l)), told(oJoin(s.name, l)))
		}
	}
}

// TestJoinOfAllLists: all lists of up to five texts of all sorts, against the second telling.
func TestJoinOfAllLists(t *testing.T) {
	for _, l := range lists([]string{"", "a", "A", " ", "a b", "\xff"}, 5) {
		for _, name := range []string{"margin", "overflow", "border-color", "margin-top", "x"} {
			is(t, name, told(Join(name, l)), told(oJoin(name, l)))
		}
	}
}

// TestJoinByChance: longer lists and other names, against the second telling.
func TestJoinByChance(t *testing.T) {
	r := rand.New(rand.NewSource(5))
	names := slices.Concat(prop.Shorts(), prop.Shorts(), []string{"", "color", "Margin", "overflow-x"})
	for range 20000 {
		var l []string
		for range []int{0, 1, 2, 2, 3, 4, 4, 4, 4, 5, 9}[r.Intn(11)] {
			l = append(l, []string{"1px", "2px", "auto", "unset", ""}[r.Intn(5)])
		}
		name := names[r.Intn(len(names))]
		if len(l) > 5 {
			is(t, name, told(Join(name, l)), told("", false))
			continue
		}
		is(t, name, told(Join(name, l)), told(oJoin(name, l)))
	}
}

// TestJoinOfNone: a name that is no shorthand, and lists that have not as many.
func TestJoinOfNone(t *testing.T) {
	for _, s := range shorthands() {
		for n := range 12 {
			l := slices.Repeat(s.values[:1], n)
			want := told("", false)
			if n == len(s.longs) {
				want = told(s.values[0], true)
			}
			is(t, s.name, told(Join(s.name, l)), want)
		}
		is(t, s.name, told(Join(s.name, nil)), told("", false))
		is(t, s.name, told(Join(s.name, []string{})), told("", false))
		is(t, s.name, told(Join(strings.ToUpper(s.name), slices.Repeat(s.values[:1], len(s.longs)))), told("", false))
	}
	for _, name := range longNames() {
		for n := range 6 {
			is(t, name, told(Join(name, slices.Repeat([]string{"auto"}, n))), told("", false))
		}
	}
	for _, name := range []string{"", "x", "border", "border-top", "\xff", "inherit", strings.Repeat("margin", 1<<16)} {
		is(t, name, told(Join(name, nil)), told("", false))
		is(t, name, told(Join(name, []string{"a", "a"})), told("", false))
		is(t, name, told(Join(name, []string{"a", "a", "a", "a"})), told("", false))
	}
}

// TestJoinAsHandedIn: texts are told as they were handed in, and held against each other by their bytes.
func TestJoinAsHandedIn(t *testing.T) {
	is(t, "letters", told(Join("overflow", []string{"Auto", "auto"})), told("Auto auto", true))
	is(t, "noughts", told(Join("margin", []string{"0px", "0", "0px", "0px"})), told("0px 0 0px 0px", true))
	is(t, "colours", told(Join("border-color", []string{"#ff0000", "#ff0000", "#ff0000", "#ff0000"})), told("#ff0000", true))
	is(t, "spaces", told(Join("overflow", []string{" a", "a "})), told(" a a ", true))
	is(t, "empty", told(Join("margin", []string{"", "", "", ""})), told("", true))
	is(t, "empty", told(Join("margin", []string{"", "a", "", ""})), told(" a  ", true))
	is(t, "bytes", told(Join("overflow", []string{"\xff", "\xfe"})), told("\xff \xfe", true))
	is(t, "bytes", told(Join("overflow", []string{"\xff", "\ufffd"})), told("\xff \ufffd", true))
}
