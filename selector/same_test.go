package selector

import (
	"math"
	"testing"

	"gouache/api"
)

func TestSame(t *testing.T) {
	texts := []string{"a", "b", "*", "a b", "a>b", "a+b", "a~b", "b a", "a,b", "b,a", "a,a", "a a", "#a", ".a", ".A", "[a]", "[b]", "[a='']", "[a=b]", "[a=c]", "[a~=b]", ".a.b", ".b.a", ".a", ".a .b", ":root", ":empty", ":nth-child(1)", ":nth-child(n+1)", ":nth-child(2)", ":nth-last-child(1)", ":not(a)", ":is(a)", ":where(a)", ":not(b)", ":not(a,b)", ":not(a b)", ":not(:not(a))", ":not(:not(b))", ":not(:is(a))", ":not(a):not(b)", ":not(b):not(a)", "a:not(b)", "a:not(b):not(b)"}
	lists := make([][]api.Complex, len(texts))
	for i, s := range texts {
		lists[i] = must(t, s)
	}
	lists = append(lists, nil, []api.Complex{}, []api.Complex{{}}, []api.Complex{{}, {}}, one(), one(api.Simple{}), []api.Complex{{Combs: []int{1}}}, []api.Complex{{Combs: []int{}, Parts: [][]api.Simple{}}}, []api.Complex{{Parts: [][]api.Simple{nil, nil}}}, []api.Complex{{Parts: [][]api.Simple{{}}}})
	for _, a := range lists {
		for _, b := range lists {
			want := exact(a) == exact(b)
			if got := Same(a, b); got != want {
				t.Errorf("Same of %s and %s: %v", exact(a), exact(b), got)
			}
			if got := Same(copied(a), b); got != want {
				t.Errorf("Same of a copy of %s and %s: %v", exact(a), exact(b), got)
			}
		}
	}
	if !Same(must(t, "A , .b>C:NOT( d )"), must(t, "a,.b > c:not(d)")) || !Same(must(t, ":only-child"), must(t, ":first-child:last-child")) {
		t.Error("Same of two that are written otherwise")
	}
}

// TestSameInAll: a difference in any field, whatever the kind, however deep, tells lists apart.
func TestSameInAll(t *testing.T) {
	for _, kind := range []int{-1, 0, 1, 2, 3, 4, 5, 6, 7, 8, 9, 10, 11, 12} {
		base := api.Simple{Kind: kind, Name: "n", Op: 1, Value: "v", A: 1, B: 2, List: one(api.Simple{Kind: api.Root})}
		others := []api.Simple{base, base, base, base, base, base, base, base}
		others[0].Kind, others[1].Name, others[2].Op, others[3].Value, others[4].A, others[5].B, others[6].List, others[7].List = 99, "m", 2, "w", math.MinInt, 3, nil, one(api.Simple{Kind: api.Empty})
		for i, other := range others {
			a, b := one(api.Simple{Kind: api.Root}, base), one(api.Simple{Kind: api.Root}, other)
			for deep := range 4 {
				if Same(a, b) || Same(b, a) || !Same(a, a) || !Same(b, b) || !Same(a, copied(a)) {
					t.Errorf("Same of two of kind %d that differ in field %d, %d deep", kind, i, deep)
				}
				root := one(api.Simple{Kind: api.Root})
				a, b = one(api.Simple{Kind: kind, List: append(copied(root), a...)}), one(api.Simple{Kind: kind, List: append(copied(root), b...)})
			}
		}
	}
	none, empty := one(api.Simple{Kind: api.Not}), one(api.Simple{Kind: api.Not, List: []api.Complex{}})
	if !Same(none, empty) || !Same(empty, none) {
		t.Error("Same of no List and an empty one")
	}
}

func TestSameByChance(t *testing.T) {
	m := newMaker(7)
	for range 3000 {
		a := m.list(1 + m.Intn(3))
		b := copied(a)
		if !Same(a, b) {
			t.Fatalf("Same of %s and its copy", exact(a))
		}
		count := 0
		eachSimple(b, func(s *api.Simple) { count++ })
		place := m.Intn(count)
		eachSimple(b, func(s *api.Simple) {
			if place == 0 {
				m.spoil(s)
			}
			place--
		})
		if want := exact(a) == exact(b); Same(a, b) != want || Same(b, a) != want {
			t.Fatalf("Same of %s and %s: %v", exact(a), exact(b), !want)
		}
	}
}

// TestDeepLists: nested deeper than any that may be read, they are weighed and held against each other, too.
func TestDeepLists(t *testing.T) {
	const deep = 1 << 17
	id, class := one(api.Simple{Kind: api.ID, Name: "a"}), one(api.Simple{Kind: api.Class, Name: "a"})
	l, other := nested(deep, api.Not, id), nested(deep, api.Not, class)
	if Of(l[0]) != (api.Spec{A: 1}) || Most(l) != (api.Spec{A: 1}) || Most(other) != (api.Spec{B: 1}) || Most(append(other, l...)) != (api.Spec{A: 1}) || Most(nested(deep, api.Where, id)) != (api.Spec{}) {
		t.Error("Most, nested deep")
	}
	if !Same(l, nested(deep, api.Not, id)) || Same(l, other) || Same(other, l) || Same(l, nested(deep-1, api.Not, id)) || Same(nested(deep+1, api.Not, id), l) {
		t.Error("Same, nested deep")
	}
	if Good(l) || Print(l) != "" {
		t.Error("Good, nested deep")
	}
	// Lists in what has none by its kind are not weighed, but held against each other.
	l, other = nested(deep, api.Root, id), nested(deep, api.Root, class)
	if Most(l) != (api.Spec{B: 1}) || Same(l, other) || !Same(l, nested(deep, api.Root, id)) || Good(l) || Print(l) != "" {
		t.Error("Lists of another kind, nested deep")
	}
	// Each level adds something, up to MaxSpec.
	l = class
	for range deep {
		l = one(api.Simple{Kind: api.Class, Name: "a"}, api.Simple{Kind: api.Is, List: l})
	}
	if Most(l) != (api.Spec{B: api.MaxSpec}) {
		t.Errorf("Most of what reaches MaxSpec by its depth: %v", Most(l))
	}
}
