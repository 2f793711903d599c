package cascade

import (
	"math/rand"
	"slices"
	"testing"

	"gouache/api"
)

// alike: two lists come to the same in all calls.
func alike(t *testing.T, what string, a, b []Entry) {
	t.Helper()
	is(t, what, Sort(a), Sort(b))
	picked(t, what, a, b)
}

// picked: two lists come to the same in those calls that go by names.
func picked(t *testing.T, what string, a, b []Entry) {
	t.Helper()
	is(t, what, Winners(a), Winners(b))
	for _, name := range append(oNames(a), "x") {
		is(t, what, told(Winner(a, name)), told(Winner(b, name)))
		is(t, what, Chain(a, name), Chain(b, name))
	}
}

// TestOrderDoesNotMatter: P17.3, of entries of each two of which one is Less, in all orders.
func TestOrderDoesNotMatter(t *testing.T) {
	l := []Entry{
		of("a", "0", 9, true, api.Spec{}, 0),
		of("b", "1", api.Agent, false, api.Spec{A: 1}, 0),
		of("a", "2", api.Author, false, api.Spec{C: 1}, 1),
		of("a", "3", api.Author, false, api.Spec{C: 1}, 2),
		of("b", "4", api.Author, false, api.Spec{B: 1}, 0),
		of("a", "5", api.Author, true, api.Spec{}, 0),
		of("b", "6", api.Agent, true, api.Spec{}, 0),
	}
	for _, o := range orders(l) {
		is(t, "Sort", valuesOf(Sort(o)), "0 1 2 3 4 5 6 ")
		is(t, "Winners", valuesOf(Winners(o)), "5 6 ")
		is(t, "Chain of a", valuesOf(Chain(o, "a")), "5 3 2 0 ")
		is(t, "Chain of b", valuesOf(Chain(o, "b")), "6 4 1 ")
		is(t, "Winner of a", told(Winner(o, "a")), told(l[5], true))
	}
}

// TestOrderMattersWhereNeitherIsLess: of entries that are as good, in all orders, the order of l is that of Sort.
func TestOrderMattersWhereNeitherIsLess(t *testing.T) {
	l := numbered(make([]Entry, 6))
	for _, o := range orders(l) {
		is(t, "Sort", Sort(o), o)
		is(t, "Chain", Chain(o, ""), reversed(o))
		is(t, "Winner", told(Winner(o, "")), told(o[5], true))
		is(t, "Winners", Winners(o), o[5:])
	}
}

// TestNeighbours: P17.3: two neighbours change places: where one is Less all stays; where neither is, they change places in Sort, and, if they are of one name, in its Chain.
func TestNeighbours(t *testing.T) {
	r := rand.New(rand.NewSource(7))
	stayed, ofTwoNames, ofOneName := 0, 0, 0
	for range 3000 {
		l := chance(r, 25)
		if len(l) < 2 {
			continue
		}
		at := r.Intn(len(l) - 1)
		if r.Intn(2) == 0 {
			l[at+1] = asGood(l[at+1], l[at], r.Intn(2) == 0)
		}
		other := slices.Clone(l)
		other[at], other[at+1] = l[at+1], l[at]
		if Less(l[at], l[at+1]) || Less(l[at+1], l[at]) {
			stayed++
			alike(t, "one is Less", l, other)
			continue
		}
		want := Sort(l)
		i := slices.Index(want, l[at])
		is(t, "they are neighbours", want[i+1], l[at+1])
		want[i], want[i+1] = want[i+1], want[i]
		is(t, "neither is Less", Sort(other), want)
		if l[at].Name != l[at+1].Name {
			ofTwoNames++
			picked(t, "of two names", l, other)
			continue
		}
		ofOneName++
		chain := Chain(l, l[at].Name)
		i = slices.Index(chain, l[at+1])
		chain[i], chain[i+1] = chain[i+1], chain[i]
		is(t, "neither is Less", Chain(other, l[at].Name), chain)
	}
	is(t, "all were tried", []bool{stayed > 500, ofTwoNames > 300, ofOneName > 300}, []bool{true, true, true})
}

// asGood: an entry with all that another one is ranked by, and with its name or its own. By chance alone hardly any two neighbours are as good.
func asGood(e, as Entry, named bool) Entry {
	as.Value = e.Value
	if !named {
		as.Name = e.Name
	}
	return as
}

// as: l in another order, in which those that are as good stand among each other as they stand in l.
func as(l, other []Entry) []Entry {
	out := slices.Clone(other)
	for i, e := range out {
		good := func(x Entry) bool { return !Less(x, e) && !Less(e, x) }
		many := 0
		for _, x := range other[:i] {
			if good(x) {
				many++
			}
		}
		for _, x := range l {
			if good(x) {
				if many == 0 {
					out[i] = x
					break
				}
				many--
			}
		}
	}
	return out
}

// TestAnyOrder: P17.3: l in any order comes to the same, if only those that are as good stay among each other as they were.
func TestAnyOrder(t *testing.T) {
	r := rand.New(rand.NewSource(8))
	moved := 0
	for range 1000 {
		l := chance(r, 40)
		other := slices.Clone(l)
		r.Shuffle(len(other), func(i, j int) { other[i], other[j] = other[j], other[i] })
		other = as(l, other)
		alike(t, "in another order", l, other)
		if !slices.Equal(l, other) {
			moved++
		}
	}
	is(t, "most were moved", moved > 800, true)
}

// TestNamesOnTheirOwn: what is of one name does not hang on how those of others stand between.
func TestNamesOnTheirOwn(t *testing.T) {
	r := rand.New(rand.NewSource(9))
	for range 500 {
		l := chance(r, 40)
		var apart []Entry
		for _, name := range oNames(l) {
			mine := oNamed(l, name)
			apart = append(mine, apart...)
			is(t, name, told(Winner(mine, name)), told(Winner(l, name)))
			is(t, name, Chain(mine, name), Chain(l, name))
		}
		picked(t, "name by name", l, apart)
	}
}
