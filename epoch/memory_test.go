package epoch

import (
	"fmt"
	"testing"
)

// spoil: a list is written over, with the room behind it.
func spoil[T any](l []T, with T) {
	l = l[:cap(l)]
	for i := range l {
		l[i] = with
	}
}

// filled: Epochs of which so many wait, in falling order.
func filled(many int) *Epochs {
	x := New(2)
	for n := range many {
		x.Retire(many - n)
		if n%3 == 2 {
			x.Publish()
		}
	}
	return x
}

// TestWaitingTellsNewMemory: a list that is changed, with its room, changes nothing of what waits, and no other list.
func TestWaitingTellsNewMemory(t *testing.T) {
	for many := range 40 {
		x, y := filled(many), filled(many)
		first, second := x.Waiting(), x.Waiting()
		spoil(first, Item{-1, -1})
		is(t, fmt.Sprint("the other list ", many), second, y.Waiting())
		_ = append(second, Item{-2, -2})
		is(t, fmt.Sprint("what waits ", many), x.Waiting(), y.Waiting())
		x.Retire(0)
		y.Retire(0)
		is(t, fmt.Sprint("one more ", many), x.Waiting(), y.Waiting())
		is(t, fmt.Sprint("Reclaim ", many), x.Reclaim(), y.Reclaim())
	}
}

// TestReclaimTellsNewMemory: likewise, with some that wait on.
func TestReclaimTellsNewMemory(t *testing.T) {
	for many := range 40 {
		x, y := filled(many), filled(many)
		for _, z := range []*Epochs{x, y} {
			z.Pin()
			z.Retire(8)
			z.Retire(7)
		}
		told, want := x.Reclaim(), y.Reclaim()
		waited := x.Waiting()
		spoil(told, -1)
		is(t, fmt.Sprint("what waits ", many), x.Waiting(), y.Waiting())
		x.Retire(9)
		y.Retire(9)
		spoil(x.Waiting(), Item{-3, -3})
		is(t, fmt.Sprint("one more ", many), x.Waiting(), y.Waiting())
		is(t, fmt.Sprint("told before ", many), waited, y.Waiting()[:len(waited)])
		x.Unpin(0)
		y.Unpin(0)
		again := x.Reclaim()
		is(t, fmt.Sprint("Reclaim again ", many), again, y.Reclaim())
		is(t, fmt.Sprint("how many ", many), len(want)+len(again), many+3)
	}
}

// TestAnswersStay: what was told stays as it was, whatever is done behind it.
func TestAnswersStay(t *testing.T) {
	for many := range 40 {
		x, y := filled(many), filled(many)
		waited, ids := x.Waiting(), x.Reclaim()
		for n := range 2 * many {
			x.Retire(-n)
		}
		x.Reclaim()
		x.Retire(3)
		is(t, fmt.Sprint("Waiting ", many), waited, y.Waiting())
		is(t, fmt.Sprint("Reclaim ", many), ids, y.Reclaim())
	}
}

// TestRoomIsNotTold: what is told has nothing of what waits in the room behind it.
func TestRoomIsNotTold(t *testing.T) {
	for many := range 40 {
		x := filled(many)
		l := x.Waiting()
		for _, i := range l[len(l):cap(l)] {
			is(t, fmt.Sprint("room of Waiting ", many), i, Item{})
		}
		ids := x.Reclaim()
		for _, id := range ids[len(ids):cap(ids)] {
			is(t, fmt.Sprint("room of Reclaim ", many), id, 0)
		}
	}
}

// TestNothingIsLeft: when nothing waits any more, no memory stands for it.
func TestNothingIsLeft(t *testing.T) {
	for many := range 40 {
		x := filled(many)
		x.Reclaim()
		is(t, fmt.Sprint("room ", many), cap(x.waits), 0)
	}
}
