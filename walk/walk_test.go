package walk

import (
	"fmt"
	"slices"
	"testing"

	"gouache/api"
	"gouache/dom"
)

func is(t *testing.T, what string, got, want any) {
	t.Helper()
	if fmt.Sprint(got) != fmt.Sprint(want) {
		t.Errorf("%s: %v, want %v", what, got, want)
	}
}

// insert, remove and move: calls that must go well.
func insert(t *testing.T, d *dom.Doc, parent, index int) *dom.Doc {
	t.Helper()
	d, _, err := d.Insert(parent, index, "k")
	return well(t, d, err)
}

func remove(t *testing.T, d *dom.Doc, id int) *dom.Doc {
	t.Helper()
	d, err := d.Remove(id)
	return well(t, d, err)
}

func move(t *testing.T, d *dom.Doc, id, parent, index int) *dom.Doc {
	t.Helper()
	d, err := d.Move(id, parent, index)
	return well(t, d, err)
}

func well(t *testing.T, d *dom.Doc, err api.Errno) *dom.Doc {
	t.Helper()
	if err != api.OK {
		t.Fatal(err)
	}
	return d
}

// some: 1 with 2 (with 5, 6 and 7, of which 6 has 8), 3, and 4 (with 9).
func some(t *testing.T) *dom.Doc {
	t.Helper()
	d := begin(t).doc
	for _, at := range [][2]int{{1, 0}, {1, 1}, {1, 2}, {2, 0}, {2, 1}, {2, 2}, {6, 0}, {4, 0}} {
		d = insert(t, d, at[0], at[1])
	}
	return d
}

var someOrder = []int{1, 2, 5, 6, 8, 7, 3, 4, 9}

func place(d *dom.Doc, id int) [2]int {
	i, k := Place(d, id)
	return [2]int{i, k}
}

// TestExample: a with b (with c) and d, numbered by their places in the alphabet.
func TestExample(t *testing.T) {
	d := begin(t).doc
	d = insert(t, insert(t, insert(t, d, 1, 0), 2, 0), 1, 1)
	is(t, "Order", Order(d), "[1 2 3 4]")
	is(t, "Place of d", place(d, 4), "[2 1]")
	is(t, "Compare(c, d)", Compare(d, 3, 4), -1)
}

func TestUnder(t *testing.T) {
	d := some(t)
	is(t, "Order", Order(d), someOrder)
	want := map[int]string{1: fmt.Sprint(someOrder), 2: "[2 5 6 8 7]", 3: "[3]", 4: "[4 9]", 5: "[5]", 6: "[6 8]", 7: "[7]", 8: "[8]", 9: "[9]"}
	for id, w := range want {
		is(t, fmt.Sprint("Under ", id), slices.Collect(Under(d, id)), w)
	}
}

func TestUp(t *testing.T) {
	d := some(t)
	for id, w := range []string{"[]", "[]", "[1]", "[1]", "[1]", "[2 1]", "[2 1]", "[2 1]", "[6 2 1]", "[4 1]"} {
		is(t, fmt.Sprint("Up ", id), Up(d, id), w)
	}
	for id, w := range []int{0, 1, 2, 2, 2, 3, 3, 3, 4, 3, 0} {
		is(t, fmt.Sprint("Depth ", id), Depth(d, id), w)
	}
}

func TestPlace(t *testing.T) {
	d := some(t)
	want := []struct{ place, before, after any }{{"[0 0]", 0, 0}, {"[1 1]", 0, 0}, {"[1 3]", 0, 3}, {"[2 2]", 2, 4}, {"[3 1]", 3, 0}, {"[1 3]", 0, 6}, {"[2 2]", 5, 7}, {"[3 1]", 6, 0}, {"[1 1]", 0, 0}, {"[1 1]", 0, 0}, {"[0 0]", 0, 0}}
	for id, w := range want {
		is(t, fmt.Sprint("Place ", id), place(d, id), w.place)
		is(t, fmt.Sprint("Before ", id), Before(d, id), w.before)
		is(t, fmt.Sprint("After ", id), After(d, id), w.after)
	}
}

func TestCompare(t *testing.T) {
	d := some(t)
	for i, a := range someOrder {
		for k, b := range someOrder {
			want := 0
			if i < k {
				want = -1
			}
			if i > k {
				want = 1
			}
			is(t, fmt.Sprintf("Compare(%d, %d)", a, b), Compare(d, a, b), want)
		}
	}
	is(t, "with itself", []int{Compare(d, 1, 1), Compare(d, 6, 6)}, "[0 0]")
	is(t, "with one below it", []int{Compare(d, 1, 2), Compare(d, 1, 8), Compare(d, 6, 8)}, "[-1 -1 -1]")
	is(t, "with one above it", []int{Compare(d, 2, 1), Compare(d, 8, 1), Compare(d, 8, 6)}, "[1 1 1]")
	is(t, "of other branches", []int{Compare(d, 8, 3), Compare(d, 3, 8), Compare(d, 8, 7), Compare(d, 9, 8), Compare(d, 5, 4)}, "[-1 1 -1 1 -1]")
}

// TestRootAlone: the root is told of as of an only one, without a Parent.
func TestRootAlone(t *testing.T) {
	d := begin(t).doc
	is(t, "Order", Order(d), "[1]")
	is(t, "of the root", fmt.Sprintf("%+v", tells(d, 1)), "{under:[1] up:[] depth:1 place:1 behind:1 before:0 after:0}")
	is(t, "Compare", Compare(d, 1, 1), 0)
}

// TestChanged: numbers do not rise in Order behind a Move; what is removed is told of no more, and its number not again.
func TestChanged(t *testing.T) {
	d := some(t)
	m := move(t, d, 2, 4, 0)
	is(t, "moved below", Order(m), "[1 3 4 2 5 6 8 7 9]")
	is(t, "its Up", Up(m, 8), "[6 2 4 1]")
	is(t, "places", []any{place(m, 2), place(m, 9), place(m, 3), place(m, 4)}, "[[1 2] [2 1] [1 2] [2 1]]")
	is(t, "beside", []int{Before(m, 9), After(m, 2), Before(m, 3), After(m, 3)}, "[2 9 0 4]")
	is(t, "Compare", []int{Compare(m, 2, 3), Compare(m, 8, 9), Compare(m, 4, 2)}, "[1 -1 -1]")
	r := remove(t, m, 6)
	is(t, "removed", Order(r), "[1 3 4 2 5 7 9]")
	is(t, "what is gone", []any{tells(r, 6), tells(r, 8)}, []any{told{}, told{}})
	is(t, "Compare with it", []int{Compare(r, 6, 1), Compare(r, 1, 8), Compare(r, 6, 8), Compare(r, 8, 8)}, "[0 0 0 0]")
	is(t, "beside it", []int{After(r, 5), Before(r, 7)}, "[7 5]")
	is(t, "inserted first", Order(insert(t, r, 1, 0)), "[1 10 3 4 2 5 7 9]")
	is(t, "the old one", Order(d), someOrder)
}

// TestNone: of numbers that no element has nothing is told.
func TestNone(t *testing.T) {
	d := remove(t, some(t), 4)
	for _, id := range append(slices.Clone(farNumbers), 4, 9, 10, 11) {
		none(t, fmt.Sprint("of ", id), d, id)
		for _, other := range append(slices.Clone(farNumbers), 1, 2, 8, id) {
			if Compare(d, id, other) != 0 || Compare(d, other, id) != 0 {
				t.Errorf("Compare of %d and %d", id, other)
			}
		}
	}
}

func none(t *testing.T, what string, d *dom.Doc, id int) {
	t.Helper()
	w := tells(d, id)
	if len(w.under) > 0 || len(w.up) > 0 || w.depth != 0 || place(d, id) != [2]int{} || w.before != 0 || w.after != 0 {
		t.Errorf("%s: %+v", what, w)
	}
}

// TestUnmade: of a Doc that no call made nothing is told; its iterators may be gone over all the same.
func TestUnmade(t *testing.T) {
	refused, _ := dom.New("")
	for what, d := range map[string]*dom.Doc{"nil": nil, "zero": {}, "New's with an error": refused} {
		if l := Order(d); len(l) > 0 {
			t.Errorf("%s: Order %v", what, l)
		}
		for _, id := range append(slices.Clone(farNumbers), 1, 2) {
			if Under(d, id) == nil {
				t.Fatalf("%s: no iterator", what)
			}
			none(t, what, d, id)
			if Compare(d, id, 1) != 0 || Compare(d, 1, id) != 0 {
				t.Errorf("%s: Compare with %d", what, id)
			}
		}
	}
}
