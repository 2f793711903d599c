package epoch

import (
	"fmt"
	"math/rand"
	"slices"
	"testing"

	"gouache/api"
)

// P20.3

// sight: who has pinned a slot, with those that were retired while he had.
type sight struct {
	held bool
	ids  []int
}

// TestNotAheadOfUnpin: what is retired while somebody has pinned is told behind his Unpin alone, and each once.
func TestNotAheadOfUnpin(t *testing.T) {
	for seed := range int64(1000) {
		r := rand.New(rand.NewSource(seed))
		pins := 1 + r.Intn(api.MaxPins)
		x, seen := New(pins), make([]sight, pins)
		var retired, gone []int
		for n := range 150 {
			switch r.Intn(6) {
			case 0:
				x.Publish()
			case 1:
				if slot, err := x.Pin(); err == api.OK {
					seen[slot] = sight{held: true}
				}
			case 2:
				slot := r.Intn(pins)
				x.Unpin(slot)
				seen[slot] = sight{}
			case 3, 4:
				x.Retire(n)
				retired = append(retired, n)
				for slot := range seen {
					seen[slot].ids = append(seen[slot].ids, n)
				}
			default:
				ids := x.Reclaim()
				for slot, s := range seen {
					if s.held && slices.ContainsFunc(ids, func(id int) bool { return slices.Contains(s.ids, id) }) {
						t.Errorf("seed %d: %v told ahead of Unpin(%d), who sees %v", seed, ids, slot, s.ids)
					}
				}
				gone = append(gone, ids...)
			}
		}
		for slot := range pins {
			x.Unpin(slot)
		}
		gone = append(gone, x.Reclaim()...)
		slices.Sort(gone)
		is(t, fmt.Sprint("each once ", seed), gone, retired)
		is(t, "none waits", x.Waiting(), []Item{})
	}
}

// TestWaitingOrReclaimed: what was retired waits, or was told, and never both.
func TestWaitingOrReclaimed(t *testing.T) {
	for seed := range int64(300) {
		r := rand.New(rand.NewSource(seed))
		x := New(2)
		var retired, gone []int
		for n := range 80 {
			switch r.Intn(5) {
			case 0:
				x.Publish()
			case 1:
				x.Pin()
			case 2:
				x.Unpin(r.Intn(2))
			case 3:
				x.Retire(n)
				retired = append(retired, n)
			default:
				gone = append(gone, x.Reclaim()...)
			}
			all := slices.Clone(gone)
			for _, i := range x.Waiting() {
				all = append(all, i.Id)
			}
			slices.Sort(all)
			is(t, fmt.Sprint(seed, n), all, retired)
		}
	}
}

// TestReclaimTellsWhatStoodAhead: what is told is the beginning of what waited, and the rest waits on.
func TestReclaimTellsWhatStoodAhead(t *testing.T) {
	for seed := range int64(500) {
		r := rand.New(rand.NewSource(seed))
		pins := 1 + r.Intn(4)
		x := New(pins)
		for range 50 {
			anyStep(r, pins).do(x)
		}
		before, least := x.Waiting(), x.Min()
		held := slices.ContainsFunc([]int{0, 1, 2, 3}, func(slot int) bool { return x.Pinned(slot) > 0 })
		ids := x.Reclaim()
		for n, i := range before {
			is(t, fmt.Sprint("below Min ", seed), n < len(ids), !held || i.Epoch < least)
			if n < len(ids) {
				is(t, fmt.Sprint("Id ", seed), ids[n], i.Id)
			}
		}
		is(t, fmt.Sprint("the rest ", seed), x.Waiting(), before[len(ids):])
	}
}

// TestSameStepsSameAnswers: what is answered hangs on what was done alone, and a look changes nothing.
func TestSameStepsSameAnswers(t *testing.T) {
	for seed := range int64(200) {
		one, other := rand.New(rand.NewSource(seed)), rand.New(rand.NewSource(seed))
		x, y := New(3), New(3)
		for range 60 {
			is(t, "the same", anyStep(one, 3).do(x), anyStep(other, 3).do(y))
			told(y)
		}
		is(t, "at last", told(x), told(y))
	}
}
