package query

import (
	"math"
	"slices"
	"testing"

	"gouache/api"
	"gouache/bucket"
	"gouache/dom"
	"gouache/match"
	"gouache/sheet"
)

var farNumbers = []int{math.MinInt, math.MinInt + 1, -1 << 20, -2, -1, 0, 1 << 16, 1<<20 - 1, 1 << 20, 1<<20 + 1, 1<<20 + 2, 1<<32 + 1, 1<<32 + 2, math.MaxInt - 1, math.MaxInt}

// The oracle: each element is asked for itself, by match's List, without filters and buckets.
func oAll(d *dom.Doc, id int, l []api.Complex) []int {
	var out []int
	for _, one := range order(d, id) {
		if one != id && match.List(d, one, l) {
			out = append(out, one)
		}
	}
	return out
}

func oClosest(d *dom.Doc, id int, l []api.Complex) int {
	for _, one := range append([]int{id}, up(d, id)...) {
		if match.List(d, one, l) {
			return one
		}
	}
	return 0
}

func oMatched(d *dom.Doc, id int, l []sheet.Placed) []int {
	var out []int
	for place, p := range l {
		if match.List(d, id, p.Rule.Selector) {
			out = append(out, place)
		}
	}
	return out
}

// oFirst: the first of a list; 0 of none.
func oFirst(l []int) int {
	if len(l) == 0 {
		return 0
	}
	return l[0]
}

// agree: All, First, Each and Closest tell what the oracle says, of all numbers up to beyond the next one; how many they told in all.
func agree(t *testing.T, what string, d *dom.Doc, l []api.Complex) int {
	t.Helper()
	told := 0
	for id := -1; id <= d.Next()+1; id++ {
		want := oAll(d, id, l)
		told += len(want)
		if got := All(d, id, l); !slices.Equal(got, want) {
			t.Fatalf("%s: All of %d: %v, want %v\n%+v", what, id, got, want, l)
		}
		if got := First(d, id, l); got != oFirst(want) {
			t.Fatalf("%s: First of %d: %v, want %v\n%+v", what, id, got, oFirst(want), l)
		}
		each := Each(d, id, l)
		for range 2 {
			if got := slices.Collect(each); !slices.Equal(got, want) {
				t.Fatalf("%s: Each of %d: %v, want %v\n%+v", what, id, got, want, l)
			}
		}
		if got, want := Closest(d, id, l), oClosest(d, id, l); got != want {
			t.Fatalf("%s: Closest of %d: %v, want %v\n%+v", what, id, got, want, l)
		}
	}
	return told
}

// matches: Matched tells what the oracle says, with an Index and without, of all numbers up to beyond the next one; how many it told in all.
func matches(t *testing.T, what string, d *dom.Doc, l []sheet.Placed) int {
	t.Helper()
	told := 0
	x := bucket.Make(l)
	for id := -1; id <= d.Next()+1; id++ {
		want := oMatched(d, id, l)
		told += len(want)
		if got := Matched(d, id, l, x); !slices.Equal(got, want) {
			t.Fatalf("%s: Matched of %d with an Index: %v, want %v\n%+v", what, id, got, want, l)
		}
		if got := Matched(d, id, l, nil); !slices.Equal(got, want) {
			t.Fatalf("%s: Matched of %d without an Index: %v, want %v\n%+v", what, id, got, want, l)
		}
	}
	return told
}
