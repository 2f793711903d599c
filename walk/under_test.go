package walk

import (
	"fmt"
	"iter"
	"slices"
	"testing"

	"gouache/dom"
)

// first: the first so many that an iterator tells; it is left at the last of them.
func first(all iter.Seq[int], most int) []int {
	var l []int
	for id := range all {
		l = append(l, id)
		if len(l) == most {
			break
		}
	}
	return l
}

func TestUnderIsLeft(t *testing.T) {
	all := Under(some(t), 1)
	for most := 1; most <= len(someOrder); most++ {
		is(t, fmt.Sprint("the first ", most), first(all, most), someOrder[:most])
		is(t, "gone over again", slices.Collect(all), someOrder)
	}
	for most := range someOrder {
		count := 0
		all(func(int) bool {
			count++
			return count <= most
		})
		is(t, "told till false is answered", count, most+1)
	}
	part := Under(some(t), 2)
	is(t, "of a part", []any{first(part, 1), first(part, 4), first(part, -1)}, "[[2] [2 5 6 8] [2 5 6 8 7]]")
}

func TestUnderNested(t *testing.T) {
	d := some(t)
	all, count := Under(d, 1), 0
	for i := range all {
		for k := range all {
			if k == i {
				break
			}
			count++
		}
	}
	is(t, "pairs", count, 9*8/2)
	var depths int
	for i := range all {
		for range Under(d, i) {
			depths++
		}
	}
	is(t, "depths in all", depths, 1+2+2+2+3+3+3+4+3)
}

// TestUnderLeavesByPanic: who panics, or goes away otherwise, within a range leaves the iterator as it was.
func TestUnderLeavesByPanic(t *testing.T) {
	all := Under(some(t), 1)
	func() {
		defer func() { recover() }()
		for id := range all {
			if id == 6 {
				panic(id)
			}
		}
	}()
	is(t, "gone over again", slices.Collect(all), someOrder)
	is(t, "from within", func() int {
		for id := range all {
			if id == 8 {
				return id
			}
		}
		return 0
	}(), 8)
}

// TestUnderStaysAsItWas: others made of a Doc, and another Doc written over it, change nothing.
func TestUnderStaysAsItWas(t *testing.T) {
	d := some(t)
	all := Under(d, 1)
	var l []int
	for id := range all {
		l = append(l, id)
		d = insert(t, d, id, 0)
		d = move(t, d, 9, 1, 0)
	}
	is(t, "while others are made", l, someOrder)
	is(t, "behind them", slices.Collect(all), someOrder)

	b := some(t)
	all = Under(b, 1)
	*b = *begin(t).doc
	is(t, "where the Doc is overwritten", slices.Collect(all), someOrder)
	*b = dom.Doc{}
	is(t, "where it is one that no call made", slices.Collect(all), someOrder)

	c := some(t)
	all = Under(c, 1)
	l = nil
	for id := range all {
		l = append(l, id)
		*c = dom.Doc{}
	}
	is(t, "where it is overwritten on the way", l, someOrder)

	var u dom.Doc
	all = Under(&u, 1)
	u = *some(t)
	is(t, "where one that no call made is", len(slices.Collect(all)), 0)
}
