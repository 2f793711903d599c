package cascade

import (
	"math"
	"math/rand"
	"slices"
	"strconv"
	"strings"
	"testing"

	"gouache/api"
)

// ends: numbers at the ends of what an int holds, where a difference of two would wrap, and others that are cut to what is.
func ends() []int {
	return []int{math.MinInt, math.MinInt + 1, math.MinInt + 3, -1 << 32, math.MinInt32, -3, -1, 0, 1, 3, math.MaxInt32, 1 << 32, 1<<32 + 1, 1<<32 + 3, math.MaxInt - 1, math.MaxInt}
}

// TestOriginsAtTheEnds: of an origin that is none the rank is 0, important or not.
func TestOriginsAtTheEnds(t *testing.T) {
	for _, origin := range append(ends(), 4, 5, 6, 7, 8, 255, 256, 257, 258, 259, 65537, -2, -255) {
		if origin >= 1 && origin <= 3 {
			continue
		}
		for _, important := range []bool{false, true} {
			bad := of("x", "bad", origin, important, api.Spec{A: 9}, 9)
			is(t, strconv.Itoa(origin), Rank(bad), 0)
			even(t, strconv.Itoa(origin), bad, of("x", "zero", 0, false, api.Spec{A: 9}, 9))
			apart(t, strconv.Itoa(origin), bad, of("x", "good", api.Agent, false, api.Spec{}, 0))
			apart(t, strconv.Itoa(origin), of("x", "zero", 0, !important, api.Spec{A: 8}, 9), bad)
			apart(t, strconv.Itoa(origin), of("x", "zero", 0, !important, api.Spec{A: 9}, 8), bad)
		}
	}
}

// TestOrdersAtTheEnds: no difference wraps.
func TestOrdersAtTheEnds(t *testing.T) {
	rising := ends()
	is(t, "they rise", slices.IsSorted(rising), true)
	for i := range rising {
		for j := i + 1; j < len(rising); j++ {
			apart(t, "Order", Entry{Origin: 3, Order: rising[i]}, Entry{Origin: 3, Order: rising[j]})
			apart(t, "Order", Entry{Order: rising[i]}, Entry{Order: rising[j]})
		}
		even(t, "Order", Entry{Value: "a", Order: rising[i]}, Entry{Value: "b", Order: rising[i]})
	}
}

// TestSpecsAtTheEnds: no sum or difference wraps, and none is cut at MaxSpec.
func TestSpecsAtTheEnds(t *testing.T) {
	rising := []int{math.MinInt, math.MinInt + 1, -1, 0, 1, api.MaxSpec, api.MaxSpec + 1, 1 << 32, math.MaxInt - 1, math.MaxInt}
	var specs []api.Spec
	for _, a := range rising {
		for _, b := range []int{math.MinInt, 0, math.MaxInt} {
			for _, c := range rising {
				specs = append(specs, api.Spec{A: a, B: b, C: c})
			}
		}
	}
	// They were made from the least on, and they are all different.
	for i := 0; i < len(specs); i++ {
		for j := i + 1; j < len(specs); j += 1 + i%7 {
			a, b := Entry{Origin: 3, Spec: specs[i], Order: math.MaxInt}, Entry{Origin: 3, Spec: specs[j], Order: math.MinInt}
			if !Less(a, b) || Less(b, a) {
				t.Errorf("%v is not less than %v", a, b)
			}
		}
	}
	var l []Entry
	for _, s := range specs {
		l = append(l, Entry{Name: "x", Origin: 3, Spec: s})
	}
	rand.New(rand.NewSource(16)).Shuffle(len(l), func(i, j int) { l[i], l[j] = l[j], l[i] })
	for i, e := range Sort(l) {
		is(t, "Sort", e.Spec, specs[i])
	}
	e, ok := Winner(l, "x")
	is(t, "Winner", []any{e.Spec, ok}, []any{api.Spec{A: math.MaxInt, B: math.MaxInt, C: math.MaxInt}, true})
}

// TestZeroEntries: entries of which all is zero.
func TestZeroEntries(t *testing.T) {
	l := make([]Entry, 9)
	is(t, "Less", Less(Entry{}, Entry{}), false)
	is(t, "Sort", Sort(l), l)
	is(t, "Winner", told(Winner(l, "")), told(Entry{}, true))
	is(t, "Winners", Winners(l), l[:1])
	is(t, "Chain", Chain(l, ""), l)
	is(t, "Winner", told(Winner(l, "x")), told(Entry{}, false))
}

// TestBytesThatAreNone: bytes with which no character begins, in names and values: held and told as they are.
func TestBytesThatAreNone(t *testing.T) {
	bad := []string{"\x00", "\x80", "\xbf\xbf", "\xc0\xaf", "\xc3", "\xed\xa0\x80", "\xef\xbf\xbd", "\xf4\x90\x80\x80", "\xfe", "\xff"}
	is(t, "they rise", slices.IsSorted(bad), true)
	var l []Entry
	for _, s := range bad {
		l = append(l, Entry{Name: s, Value: s + s, Origin: 3}, Entry{Name: s + "a", Value: "a" + s, Origin: 2}, Entry{Name: s, Value: s, Origin: 1})
	}
	is(t, "Sort", Sort(l), oSort(l))
	is(t, "Winners", Winners(l), oWinners(l))
	is(t, "how many", len(Winners(l)), 2*len(bad))
	for _, s := range bad {
		is(t, s, told(Winner(l, s)), told(Entry{Name: s, Value: s + s, Origin: 3}, true))
		is(t, s, Chain(l, s), []Entry{{Name: s, Value: s + s, Origin: 3}, {Name: s, Value: s, Origin: 1}})
		is(t, s, told(Winner(l, s+s)), told(Entry{}, false))
	}
}

// TestLongTexts: names that differ at their ends alone, and values, of very many bytes.
func TestLongTexts(t *testing.T) {
	as := strings.Repeat("a", 1<<22)
	l := []Entry{{Name: as + "b", Value: "0" + as, Origin: 3}, {Name: as + "a", Value: "1" + as, Origin: 1}, {Name: as, Value: "2" + as, Origin: 2}, {Name: as + "b", Value: "3" + as, Origin: 3}}
	same := func(what string, got, want []Entry) {
		t.Helper()
		if !slices.Equal(got, want) {
			t.Errorf("%s: other entries", what)
		}
	}
	same("Sort", Sort(l), []Entry{l[1], l[2], l[0], l[3]})
	same("Winners", Winners(l), []Entry{l[2], l[1], l[3]})
	same("Chain", Chain(l, as+"b"), []Entry{l[3], l[0]})
	same("Chain", Chain(l, as), l[2:3])
	same("Chain", Chain(l, as+"c"), nil)
	e, ok := Winner(l, as+"b")
	is(t, "Winner", []any{e == l[3], ok}, []any{true, true})
	e, ok = Winner(l, as[1:])
	is(t, "Winner", []any{e == Entry{}, ok}, []any{true, false})
}

// TestLongLists: very many entries, that rise, that fall, that are alike, and by chance.
func TestLongLists(t *testing.T) {
	const many = 1 << 18
	r := rand.New(rand.NewSource(17))
	makes := []func(i int) Entry{
		func(i int) Entry { return Entry{Order: i} },
		func(i int) Entry { return Entry{Order: -i} },
		func(i int) Entry { return Entry{} },
		func(i int) Entry {
			return Entry{Name: strconv.Itoa(r.Intn(1000)), Origin: r.Intn(5), Important: r.Intn(2) == 0, Spec: api.Spec{C: r.Intn(3)}, Order: r.Intn(100)}
		},
	}
	for n, nth := range makes {
		var l []Entry
		for i := range many {
			e := nth(i)
			e.Value = strconv.Itoa(i)
			l = append(l, e)
		}
		want := slices.Clone(l)
		slices.SortStableFunc(want, oCompare)
		is(t, strconv.Itoa(n)+": Sort", slices.Equal(Sort(l), want), true)
		name := l[0].Name
		mine := reversed(oNamed(want, name))
		is(t, strconv.Itoa(n)+": Chain", slices.Equal(Chain(l, name), mine), true)
		is(t, strconv.Itoa(n)+": Winner", told(Winner(l, name)), told(mine[0], true))
		is(t, strconv.Itoa(n)+": Winners", slices.Equal(Winners(l), lastOf(want)), true)
	}
}

// lastOf: of each name in a list that is sorted the last entry, by names.
func lastOf(l []Entry) []Entry {
	last := map[string]Entry{}
	for _, e := range l {
		last[e.Name] = e
	}
	var out []Entry
	for _, name := range oNames(l) {
		out = append(out, last[name])
	}
	return out
}

// TestManyNames: very many names, each with a winner of its own.
func TestManyNames(t *testing.T) {
	const many = 1 << 17
	var l []Entry
	for i := range many {
		l = append(l, Entry{Name: strconv.Itoa(many - i), Order: i}, Entry{Name: strconv.Itoa(i + 1), Order: -i - 1})
	}
	got := Winners(l)
	is(t, "how many", len(got), many)
	is(t, "by names", slices.IsSortedFunc(got, func(a, b Entry) int { return strings.Compare(a.Name, b.Name) }), true)
	for _, e := range got {
		if e.Order < 0 || strconv.Itoa(many-e.Order) != e.Name {
			t.Fatalf("%v does not win", e)
		}
	}
}

// TestPile: what is no row is not put onto a heap, and of none there is nothing to go over.
func TestPile(t *testing.T) {
	var p pile
	p.Push(7)
	p.Push(nil)
	p.Push(Entry{})
	is(t, "nothing was put", p.Len(), 0)
	for range p.each {
		t.Error("an entry of none")
	}
	feed(numbered(make([]Entry, 5)), p.put)
	for e := range p.each {
		is(t, "the last one wins", e.Value, "4")
		break
	}
	is(t, "the others are left", p.Len(), 4)
}
