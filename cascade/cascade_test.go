package cascade

import (
	"math/rand"
	"slices"
	"testing"

	"gouache/api"
	"gouache/selector"
)

// TestExample: the chapter's, and those of the whole.
func TestExample(t *testing.T) {
	author := of("x", "a", api.Author, false, api.Spec{A: 9, B: 9, C: 9}, 9)
	agent := of("x", "b", api.Agent, true, api.Spec{}, 0)
	for _, l := range [][]Entry{{author, agent}, {agent, author}} {
		is(t, "an important one of the Agent", told(Winner(l, "x")), told(agent, true))
		is(t, "an important one of the Agent", Winners(l), []Entry{agent})
		is(t, "an important one of the Agent", Chain(l, "x"), []Entry{agent, author})
		is(t, "an important one of the Agent", Sort(l), []Entry{author, agent})
	}
	class := of("x", "a", api.Author, false, api.Spec{B: 1}, 0)
	tags := of("x", "b", api.Author, false, api.Spec{C: 9}, 1)
	for _, l := range [][]Entry{{class, tags}, {tags, class}} {
		is(t, "(0, 1, 0) over (0, 0, 9)", told(Winner(l, "x")), told(class, true))
		is(t, "(0, 1, 0) over (0, 0, 9)", Sort(l), []Entry{tags, class})
	}
}

// TestRank: each origin, important and not.
func TestRank(t *testing.T) {
	type row struct {
		origin           int
		plain, important int
	}
	for _, x := range []row{{api.Agent, 1, 6}, {api.User, 2, 5}, {api.Author, 3, 4}, {0, 0, 0}, {4, 0, 0}, {5, 0, 0}, {6, 0, 0}, {7, 0, 0}, {-1, 0, 0}, {-2, 0, 0}, {-3, 0, 0}} {
		for _, spec := range []api.Spec{{}, {A: 1}, {B: 2}, {C: 3}, {A: -1, B: -1, C: -1}} {
			for _, order := range []int{-1, 0, 1, 9} {
				for _, name := range []string{"", "color", "x"} {
					is(t, "plain", Rank(of(name, "v", x.origin, false, spec, order)), x.plain)
					is(t, "important", Rank(of(name, "", x.origin, true, spec, order)), x.important)
				}
			}
		}
	}
	is(t, "zero", Rank(Entry{}), 0)
}

// apart: the first of two is Less than the second one, and not the other way round, in all calls.
func apart(t *testing.T, what string, a, b Entry) {
	t.Helper()
	is(t, what, []bool{Less(a, b), Less(b, a), Less(a, a), Less(b, b)}, []bool{true, false, false, false})
	for _, l := range [][]Entry{{a, b}, {b, a}} {
		is(t, what, Sort(l), []Entry{a, b})
		is(t, what, told(Winner(l, a.Name)), told(b, true))
		is(t, what, Winners(l), []Entry{b})
		is(t, what, Chain(l, a.Name), []Entry{b, a})
	}
}

// even: neither of two is Less: the one that is ahead stays ahead, in all calls.
func even(t *testing.T, what string, a, b Entry) {
	t.Helper()
	is(t, what, []bool{Less(a, b), Less(b, a), Less(a, a), Less(b, b)}, make([]bool, 4))
	for _, l := range [][]Entry{{a, b}, {b, a}} {
		is(t, what, Sort(l), l)
		is(t, what, told(Winner(l, a.Name)), told(l[1], true))
		is(t, what, Winners(l), l[1:])
		is(t, what, Chain(l, a.Name), []Entry{l[1], l[0]})
	}
}

// TestByRank: entries that differ by rank alone, whatever they have beside it.
func TestByRank(t *testing.T) {
	byRank := append([]Entry{{}}, oRanks()[1:]...)
	for i := range byRank {
		for j := i + 1; j < len(byRank); j++ {
			a, b := byRank[i], byRank[j]
			apart(t, "by rank", a, b)
			// Neither a specificity nor an order makes up for a rank, nor does a text.
			a.Spec, a.Order, a.Value = api.Spec{A: 7, B: 7, C: 7}, 7, "z"
			apart(t, "by rank, against all else", a, b)
			b.Spec, b.Order, b.Value = api.Spec{A: -1, B: 99, C: 99}, -1, "a"
			apart(t, "by rank, against all else", a, b)
		}
	}
}

// TestBySpec: entries that differ by specificity alone, and by it and order.
func TestBySpec(t *testing.T) {
	rising := []api.Spec{{A: -1, B: 5, C: 5}, {}, {C: 1}, {C: 9}, {B: 1}, {B: 1, C: 1}, {B: 9, C: 0}, {B: 9, C: 9}, {A: 1}, {A: 1, C: 1}, {A: 1, B: 1}, {A: 2}, {A: 10}, {A: api.MaxSpec, B: api.MaxSpec, C: api.MaxSpec}, {A: api.MaxSpec + 1}}
	for _, e := range append([]Entry{{}}, oRanks()[1:]...) {
		for i := range rising {
			for j := i + 1; j < len(rising); j++ {
				a, b := e, e
				a.Spec, b.Spec = rising[i], rising[j]
				apart(t, "by specificity", a, b)
				a.Order, a.Value = 7, "z"
				b.Order, b.Value = -7, "a"
				apart(t, "by specificity, against order", a, b)
				is(t, "as selector says", []bool{selector.Less(a.Spec, b.Spec), selector.Less(b.Spec, a.Spec)}, []bool{true, false})
			}
		}
	}
}

// TestByOrder: entries that differ by order alone.
func TestByOrder(t *testing.T) {
	rising := []int{-10, -9, -1, 0, 1, 2, 9, 10, 100, 1 << 16, 1 << 31, 1 << 32, 1<<32 + 1}
	for _, e := range grid([]int{0, 1, 2, 3, 4}, []api.Spec{{}, {A: 1}, {C: 3}}, []int{0}) {
		for i := range rising {
			for j := i + 1; j < len(rising); j++ {
				a, b := e, e
				a.Order, b.Order = rising[i], rising[j]
				a.Value, b.Value = "z", "a"
				apart(t, "by order", a, b)
			}
		}
	}
}

// TestEven: entries that are equal, that differ by value alone, and by an origin that is none: of these all rank 0.
func TestEven(t *testing.T) {
	for _, e := range grid([]int{0, 1, 2, 3, 4}, []api.Spec{{}, {A: 1}, {B: 2, C: 3}}, []int{-1, 0, 5}) {
		a, b := e, e
		even(t, "equal", a, b)
		a.Value, b.Value = "a", "b"
		even(t, "by value", a, b)
		if Rank(e) == 0 {
			b.Origin, b.Important = 99, !a.Important
			even(t, "by an origin that is none", a, b)
		}
	}
}

// TestNamesDoNotMatter: neither to Less nor to Sort.
func TestNamesDoNotMatter(t *testing.T) {
	names := []string{"", "a", "b", "z", "\xff"}
	for _, x := range names {
		for _, y := range names {
			a, b := of(x, "1", 3, false, api.Spec{}, 1), of(y, "2", 3, false, api.Spec{}, 1)
			is(t, x+y, []bool{Less(a, b), Less(b, a)}, []bool{false, false})
			is(t, x+y, Sort([]Entry{a, b}), []Entry{a, b})
			b.Order = 2
			is(t, x+y, []bool{Less(a, b), Less(b, a)}, []bool{true, false})
			is(t, x+y, Sort([]Entry{b, a}), []Entry{a, b})
		}
	}
}

// TestLessIsAnOrder: against the second telling, each with each of many, and what any order has: of three in a row the first is Less than the last.
func TestLessIsAnOrder(t *testing.T) {
	all := grid([]int{-1, 0, 1, 2, 3, 4}, []api.Spec{{}, {C: 1}, {B: 1}, {A: 1}, {A: 1, B: 1}}, []int{0, 1, 2})
	for _, a := range all {
		is(t, "Rank", Rank(a), oRank(a))
		for _, b := range all {
			if got, want := Less(a, b), oCompare(a, b) < 0; got != want {
				t.Errorf("Less(%v, %v): %v, want %v", a, b, got, want)
			}
		}
	}
	some := grid([]int{0, 1, 3}, []api.Spec{{}, {B: 1}}, []int{0, 1})
	for _, a := range some {
		for _, b := range some {
			for _, c := range some {
				if Less(a, b) && Less(b, c) && !Less(a, c) || !Less(a, b) && !Less(b, c) && Less(a, c) {
					t.Errorf("%v, %v, %v are in no order", a, b, c)
				}
			}
		}
	}
}

// TestSortByHand: several entries of several names.
func TestSortByHand(t *testing.T) {
	l := []Entry{
		of("color", "h", api.Author, true, api.Spec{C: 1}, 1),
		of("width", "f", api.Author, false, api.Spec{B: 1}, 0),
		of("color", "k", api.Agent, true, api.Spec{}, 0),
		of("float", "b", api.Agent, false, api.Spec{A: 5}, 9),
		of("color", "i", api.Author, true, api.Spec{C: 1}, 1),
		of("width", "d", api.Author, false, api.Spec{C: 9}, 3),
		of("", "c", api.User, false, api.Spec{}, 4),
		of("float", "j", api.User, true, api.Spec{}, 4),
		of("width", "g", api.Author, false, api.Spec{B: 1}, 2),
		of("color", "a", 7, true, api.Spec{A: 9}, 9),
		of("color", "e", api.Author, false, api.Spec{C: 9}, 3),
	}
	is(t, "Sort", valuesOf(Sort(l)), "a b c d e f g h i j k ")
	is(t, "of the other way round", valuesOf(Sort(reversed(l))), "a b c e d f g i h j k ")
	is(t, "Winners", valuesOf(Winners(l)), "c k j g ")
	is(t, "Chain of color", valuesOf(Chain(l, "color")), "k i h e a ")
	is(t, "Chain of width", valuesOf(Chain(l, "width")), "g f d ")
	is(t, "Chain of float", valuesOf(Chain(l, "float")), "j b ")
	is(t, "Chain of no text", valuesOf(Chain(l, "")), "c ")
}

// reversed: a list from its end.
func reversed(l []Entry) []Entry {
	out := slices.Clone(l)
	slices.Reverse(out)
	return out
}

// TestFew: no entries, and one.
func TestFew(t *testing.T) {
	for _, l := range [][]Entry{nil, {}, make([]Entry, 0, 9)} {
		is(t, "Sort", Sort(l), none())
		is(t, "Winners", Winners(l), none())
		for _, name := range []string{"", "x", "color"} {
			is(t, "Winner", told(Winner(l, name)), told(Entry{}, false))
			is(t, "Chain", Chain(l, name), none())
		}
	}
	for _, e := range append(grid([]int{-1, 0, 1, 2, 3, 4}, []api.Spec{{}, {A: 1, B: 2, C: 3}}, []int{-1, 0, 1}), Entry{}) {
		for _, name := range []string{"", "x", "color"} {
			e.Name, e.Value = name, "v"
			l := []Entry{e}
			is(t, "Sort", Sort(l), l)
			is(t, "Winners", Winners(l), l)
			is(t, "Winner", told(Winner(l, name)), told(e, true))
			is(t, "Chain", Chain(l, name), l)
			is(t, "Winner of another", told(Winner(l, name+"x")), told(Entry{}, false))
			is(t, "Chain of another", Chain(l, name+"x"), none())
		}
	}
}

// sorted: none is Less than one ahead of it, and of two of which neither is, the one that was ahead is ahead; nothing is lost. The values are numbers of places.
func sorted(t *testing.T, l []Entry) {
	t.Helper()
	got := Sort(l)
	if len(got) != len(l) {
		t.Fatalf("%d entries of %d", len(got), len(l))
	}
	for j, b := range got {
		if !slices.Contains(l, b) {
			t.Errorf("%v is none of %v", b, l)
		}
		for _, a := range got[:j] {
			if Less(b, a) {
				t.Errorf("%v stands behind %v", b, a)
			}
			if !Less(a, b) && slices.Index(l, a) >= slices.Index(l, b) {
				t.Errorf("%v was not ahead of %v", a, b)
			}
		}
	}
}

// TestSortByItsWords: of all lists of up to five of entries of which some are as good, and of many by chance, what the chapter asks.
func TestSortByItsWords(t *testing.T) {
	some := []Entry{{}, {Origin: 3}, {Origin: 3, Order: 1}, {Origin: 3, Spec: api.Spec{C: 1}}, {Origin: 3, Important: true}}
	for _, l := range lists(some, 5) {
		sorted(t, numbered(l))
	}
	r := rand.New(rand.NewSource(1))
	for range 300 {
		sorted(t, chance(r, 60))
	}
}

// TestSortAsToldTwice: against the second telling.
func TestSortAsToldTwice(t *testing.T) {
	some := []Entry{{Name: "a"}, {Name: "b", Origin: 7}, {Name: "a", Origin: 1, Important: true}, {Name: "b", Origin: 3}, {Name: "a", Origin: 3, Order: -1}}
	for _, l := range lists(some, 6) {
		x := numbered(l)
		is(t, "Sort", valuesOf(Sort(x)), valuesOf(oSort(x)))
	}
	r := rand.New(rand.NewSource(2))
	for range 2000 {
		l := chance(r, 80)
		is(t, "Sort", Sort(l), oSort(l))
	}
}

// TestSortAgain: what was sorted stays, and what was sorted from its end is turned round but for those that are as good.
func TestSortAgain(t *testing.T) {
	r := rand.New(rand.NewSource(3))
	for range 1000 {
		l := chance(r, 60)
		once := Sort(l)
		is(t, "again", Sort(once), once)
		is(t, "again and again", Sort(Sort(Sort(l))), once)
		is(t, "from its end", Sort(reversed(once)), oSort(reversed(l)))
	}
}
