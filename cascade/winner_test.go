package cascade

import (
	"math/rand"
	"slices"
	"strings"
	"testing"

	"gouache/api"
)

// all: each call against the second telling, of each name of l and of some that none has.
func all(t *testing.T, l []Entry) {
	t.Helper()
	is(t, "Winners", Winners(l), oWinners(l))
	for _, name := range append(oNames(l), "", "x", "colo", "colorx", "\xfe", "\xff\xff") {
		is(t, "Winner "+name, told(Winner(l, name)), told(oWinner(l, name)))
		is(t, "Chain "+name, Chain(l, name), oChain(l, name))
	}
}

// TestWinnerOfEachName: and of a name that none has.
func TestWinnerOfEachName(t *testing.T) {
	l := []Entry{
		of("color", "red", api.Author, false, api.Spec{B: 1}, 0),
		of("width", "1px", api.Author, false, api.Spec{C: 1}, 1),
		of("color", "blue", api.Author, false, api.Spec{C: 1}, 1),
		of("width", "2px", api.User, true, api.Spec{}, 2),
		of("height", "3px", api.Agent, false, api.Spec{}, 3),
		of("color", "green", api.Author, false, api.Spec{B: 1}, 4),
		of("height", "4px", 0, true, api.Spec{A: 9}, 9),
	}
	is(t, "color", told(Winner(l, "color")), told(l[5], true))
	is(t, "width", told(Winner(l, "width")), told(l[3], true))
	is(t, "height", told(Winner(l, "height")), told(l[4], true))
	is(t, "Winners", Winners(l), []Entry{l[5], l[4], l[3]})
	is(t, "color", Chain(l, "color"), []Entry{l[5], l[0], l[2]})
	is(t, "width", Chain(l, "width"), []Entry{l[3], l[1]})
	is(t, "height", Chain(l, "height"), []Entry{l[4], l[6]})
	for _, name := range []string{"", "Color", "COLOR", "colo", "color ", " color", "colors", "color\x00", "float", "red"} {
		is(t, name, told(Winner(l, name)), told(Entry{}, false))
		is(t, name, Chain(l, name), none())
	}
}

// TestAnOriginThatIsNone: an entry of such an origin wins where there is no other one.
func TestAnOriginThatIsNone(t *testing.T) {
	bad := of("x", "bad", 9, true, api.Spec{A: 9, B: 9, C: 9}, 9)
	is(t, "alone", told(Winner([]Entry{bad}, "x")), told(bad, true))
	for _, origin := range []int{api.Agent, api.User, api.Author} {
		good := of("x", "good", origin, false, api.Spec{}, 0)
		is(t, "beside another", told(Winner([]Entry{good, bad}, "x")), told(good, true))
		is(t, "beside another", told(Winner([]Entry{bad, good}, "x")), told(good, true))
	}
}

// TestTheEmptyName: it is a name as any other.
func TestTheEmptyName(t *testing.T) {
	l := []Entry{{Name: "a", Value: "1", Order: 5}, {Value: "2", Order: 1}, {Value: "3"}, {Name: "b", Value: "4"}}
	is(t, "Winner", told(Winner(l, "")), told(l[1], true))
	is(t, "Chain", Chain(l, ""), []Entry{l[1], l[2]})
	is(t, "Winners", Winners(l), []Entry{l[1], l[0], l[3]})
	is(t, "no such", told(Winner(l[:1], "")), told(Entry{}, false))
	is(t, "a zero one is there", told(Winner([]Entry{{}}, "")), told(Entry{}, true))
}

// TestWinnersByNames: by their bytes, whatever wins and in whatever order they come.
func TestWinnersByNames(t *testing.T) {
	names := []string{"", "\x00", " ", "-a", "A", "Z", "a", "a\x00", "a-b", "aa", "ab", "b", "\x7f", "\x80", "é", "\ud7ff", "\ufffd", "\uffff", "\U00010000", "\xff", "\xff\x00"}
	is(t, "they rise", slices.IsSorted(names), true)
	r := rand.New(rand.NewSource(4))
	for range 300 {
		var l, want []Entry
		for _, name := range names {
			e := of(name, "won", 1+r.Intn(3), false, api.Spec{C: r.Intn(3)}, r.Intn(3))
			want = append(want, e)
			lost := e
			lost.Value, lost.Order = "lost", e.Order-1
			l = append(l, e, lost)
		}
		r.Shuffle(len(l), func(i, j int) { l[i], l[j] = l[j], l[i] })
		is(t, "Winners", Winners(l), want)
	}
}

// TestAllLists: all lists of up to five of a few entries of two names, against the second telling.
func TestAllLists(t *testing.T) {
	some := []Entry{{Name: "a", Origin: 3}, {Name: "b", Origin: 3}, {Name: "a", Origin: 3, Order: 1}, {Name: "b", Origin: 2, Important: true}, {Name: "a", Origin: 3, Spec: api.Spec{B: 1}}}
	for _, l := range lists(some, 5) {
		all(t, numbered(l))
	}
}

// TestByChance: against the second telling.
func TestByChance(t *testing.T) {
	r := rand.New(rand.NewSource(5))
	for range 1500 {
		all(t, chance(r, 60))
	}
}

// TestByTheirWords: Winner, Winners and Chain, as the chapter tells them, by Sort.
func TestByTheirWords(t *testing.T) {
	r := rand.New(rand.NewSource(6))
	for range 1500 {
		l := chance(r, 60)
		var winners []Entry
		many := 0
		for _, name := range oNames(l) {
			mine := Sort(oNamed(l, name))
			many += len(mine)
			is(t, name, told(Winner(l, name)), told(mine[len(mine)-1], true))
			is(t, name, Chain(l, name), reversed(mine))
			is(t, name, Chain(l, name)[0], mine[len(mine)-1])
			is(t, name, oNamed(Sort(l), name), mine)
			winners = append(winners, mine[len(mine)-1])
		}
		is(t, "Winners", Winners(l), winners)
		is(t, "each entry is in one Chain", many, len(l))
		is(t, "Winners of Winners", Winners(Winners(l)), winners)
	}
}

// TestNamesAreHeldByBytes: small letters are not capital ones, nor is a name another one that looks like it.
func TestNamesAreHeldByBytes(t *testing.T) {
	names := []string{"color", "Color", "COLOR", "color\x00", "colo\u0072\u0301", "\u00e9", "e\u0301", "\xff", "\xfe", "\ufffd", strings.Repeat("a", 64), strings.Repeat("a", 65)}
	var l []Entry
	for _, name := range names {
		l = append(l, Entry{Name: name, Value: "v" + name})
	}
	for i, name := range names {
		is(t, name, told(Winner(l, name)), told(l[i], true))
		is(t, name, Chain(l, name), l[i:i+1])
	}
	is(t, "Winners", len(Winners(l)), len(l))
}
