package query

import (
	"iter"
	"slices"

	"gouache/api"
	"gouache/bloom"
	"gouache/bucket"
	"gouache/dom"
	"gouache/match"
	"gouache/sheet"
	"gouache/walk"
)

// below: those below an element whom one of a list means, in walk's order. It looks at the tree and the list while it is gone over.
func below(d *dom.Doc, id int, l []api.Complex) iter.Seq[int] {
	return func(yield func(int) bool) {
		above := filters(d, id)
		for one := range walk.Under(d, id) {
			filter := above(one)
			if one != id && means(d, one, l, filter) && !yield(one) {
				return
			}
		}
	}
}

// level: an element, and the filter of all above its Kids.
type level struct {
	id    int
	above bloom.Filter
}

// filters: tells the filter of all above an element, asked of each one in walk's order from an element on. The levels of those above the last one that was asked stand in a stack, so that no element's keys are reckoned twice.
func filters(d *dom.Doc, id int) func(one int) bloom.Filter {
	top, _ := d.Node(id)
	stack := []level{{top.Parent, bloom.Of(d, id)}}
	return func(one int) bloom.Filter {
		n, _ := d.Node(one)
		for stack[len(stack)-1].id != n.Parent {
			stack = stack[:len(stack)-1]
		}
		above := stack[len(stack)-1].above
		if len(n.Kids) > 0 {
			stack = append(stack, level{one, with(above, bloom.Keys(d, one))})
		}
		return above
	}
}

// with: a filter with keys.
func with(f bloom.Filter, keys []uint32) bloom.Filter {
	for _, key := range keys {
		f = bloom.Add(f, key)
	}
	return f
}

// means: does one of a list mean an element that has such a filter above it? What the filter leaves out is not asked.
func means(d *dom.Doc, id int, l []api.Complex, above bloom.Filter) bool {
	left := slices.DeleteFunc(slices.Clone(l), func(c api.Complex) bool { return bloom.Skip(above, c) })
	return len(left) > 0 && match.List(d, id, left)
}

// places: those of the rules that may mean an element; all of them, if the Index is not of so many rules (so that a place it tells is one of these).
func places(d *dom.Doc, id int, l []sheet.Placed, x *bucket.Index) []int {
	if x.Len() == len(l) {
		return x.Pick(d, id)
	}
	all := make([]int, len(l))
	for place := range all {
		all[place] = place
	}
	return all
}
