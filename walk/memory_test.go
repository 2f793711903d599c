package walk

import (
	"slices"
	"sync"
	"testing"
)

// spoil: writes over a list, its spare room too.
func spoil(l []int) {
	for i := range l[:cap(l)] {
		l[:cap(l)][i] = -7
	}
}

// TestAnswersAreNew: who writes over an answer changes neither the tree nor another answer.
func TestAnswersAreNew(t *testing.T) {
	d := some(t)
	l, m := Order(d), Order(d)
	spoil(l)
	is(t, "another Order", m, someOrder)
	is(t, "Order again", Order(d), someOrder)
	l, m = Up(d, 8), Up(d, 8)
	spoil(l)
	is(t, "another Up", m, "[6 2 1]")
	is(t, "Up again", Up(d, 8), "[6 2 1]")
	spoil(slices.Collect(Under(d, 1)))
	is(t, "Under again", slices.Collect(Under(d, 1)), someOrder)
}

// TestNothingChanges: a tree is as it was behind all calls.
func TestNothingChanges(t *testing.T) {
	d := some(t)
	was := *d
	for a := -1; a <= d.Next(); a++ {
		tells(d, a)
		for b := -1; b <= d.Next(); b++ {
			Compare(d, a, b)
		}
	}
	if was != *d {
		t.Error("another Doc")
	}
	is(t, "Order", Order(d), someOrder)
}

// TestSharedByMany: a tree, and an iterator of it, may be gone over by many at once.
func TestSharedByMany(t *testing.T) {
	d := some(t)
	all := Under(d, 1)
	looks := make([][]int, 8)
	var wait sync.WaitGroup
	for i := range looks {
		wait.Go(func() {
			for range 50 {
				looks[i] = slices.Collect(all)
				first(all, i)
				Order(d)
				tells(d, i)
				Compare(d, i, 8)
			}
		})
	}
	wait.Wait()
	for _, l := range looks {
		is(t, "each tells the same", l, someOrder)
	}
}
