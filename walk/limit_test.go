package walk

import (
	"cmp"
	"fmt"
	"slices"
	"testing"

	"gouache/api"
	"gouache/dom"
)

// chain: elements 1 to MaxDepth, each the only Kid of the one ahead.
func chain(t *testing.T) *dom.Doc {
	t.Helper()
	d := begin(t).doc
	for id := 1; id < api.MaxDepth; id++ {
		d = insert(t, d, id, 0)
	}
	if _, _, err := d.Insert(api.MaxDepth, 0, "k"); err != api.ErrLimit {
		t.Fatal(err)
	}
	return d
}

// rising: the numbers from one to another.
func rising(from, to int) []int {
	var l []int
	for id := from; id <= to; id++ {
		l = append(l, id)
	}
	return l
}

func TestDeepest(t *testing.T) {
	d := chain(t)
	is(t, "Order", Order(d), rising(1, 512))
	for _, id := range rising(1, 512) {
		is(t, fmt.Sprint("Under ", id), slices.Collect(Under(d, id)), rising(id, 512))
		up := rising(1, id-1)
		slices.Reverse(up)
		is(t, fmt.Sprint("Up ", id), Up(d, id), up)
		is(t, fmt.Sprint("Depth ", id), Depth(d, id), id)
		is(t, fmt.Sprint("beside ", id), []any{place(d, id), Before(d, id), After(d, id)}, "[[1 1] 0 0]")
		is(t, fmt.Sprint("Compare ", id), []int{Compare(d, id, id), Compare(d, id, 511), Compare(d, 511, id)}, []int{0, cmp.Compare(id, 511), cmp.Compare(511, id)})
	}
	is(t, "the ends", []int{Compare(d, 1, 512), Compare(d, 512, 1), Depth(d, 513)}, "[-1 1 0]")
	is(t, "left at the deepest", first(Under(d, 1), 512), rising(1, 512))
	is(t, "left ahead of it", first(Under(d, 1), 511), rising(1, 511))
}

// TestDeepTwins: two branches of the greatest depth, that part at the root or right above their ends.
func TestDeepTwins(t *testing.T) {
	d := chain(t)
	last := 1
	for range api.MaxDepth - 1 {
		d = insert(t, d, last, 0)
		last = d.Next() - 1
	}
	is(t, "Order", Order(d), append(append([]int{1}, rising(513, 1023)...), rising(2, 512)...))
	is(t, "their ends", []int{Depth(d, 512), Depth(d, last), Compare(d, last, 512), Compare(d, 512, last)}, "[512 512 -1 1]")
	is(t, "an end and a beginning", []int{Compare(d, last, 2), Compare(d, 513, 512), Compare(d, 512, 513)}, "[-1 -1 1]")
	d = insert(t, d, 511, 1)
	is(t, "ends of one Parent", []int{Compare(d, 512, 1024), Compare(d, 1024, 512), Depth(d, 1024)}, "[-1 1 512]")
	is(t, "beside each other", []any{place(d, 512), place(d, 1024), After(d, 512), Before(d, 1024)}, "[[1 2] [2 1] 1024 512]")
}

// TestMany: a root with many Kids, of which each has one; those behind are inserted first.
func TestMany(t *testing.T) {
	const many = 3000
	d := begin(t).doc
	var want []int
	for range many {
		d = insert(t, d, 1, 0)
		d = insert(t, d, d.Next()-1, 0)
		want = append(want, d.Next()-1, d.Next()-2)
	}
	want = append(want, 1)
	slices.Reverse(want)
	is(t, "Order", Order(d), want)
	for i := 0; i < many; i += 100 {
		kid := want[1+2*i]
		is(t, fmt.Sprint("Place ", kid), place(d, kid), []int{i + 1, many - i})
		before, after := kid+2, kid-2
		if i == 0 {
			before = 0
		}
		is(t, fmt.Sprint("beside ", kid), []int{Before(d, kid), After(d, kid)}, []int{before, after})
		is(t, fmt.Sprint("Compare ", kid), []int{Compare(d, kid, after), Compare(d, after+1, kid), Compare(d, kid+1, kid)}, "[-1 1 1]")
	}
	is(t, "the last", []any{place(d, 2), Before(d, 2), After(d, 2)}, "[[3000 1] 4 0]")
}
