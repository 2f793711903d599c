package epoch

import (
	"fmt"
	"math/rand"
	"slices"
	"sync"
	"sync/atomic"
	"testing"

	"gouache/api"
)

const sides = 8

// together: what each of several sides does, all at once.
func together(many int, do func(side int)) {
	var group sync.WaitGroup
	begin := make(chan struct{})
	for side := range many {
		group.Add(1)
		go func() {
			defer group.Done()
			<-begin
			do(side)
		}()
	}
	close(begin)
	group.Wait()
}

// TestManyPins: each slot is held once, and the others are refused.
func TestManyPins(t *testing.T) {
	for n := range 2000 {
		pins := 1 + n%api.MaxPins
		x := New(pins)
		var slots [sides]int
		together(sides, func(side int) {
			slot, err := x.Pin()
			if err != api.OK {
				slot = 100 + int(err)
			}
			slots[side] = slot
		})
		slices.Sort(slots[:])
		for i, slot := range slots {
			want := i
			if i >= pins {
				want = 100 + int(api.ErrBusy)
			}
			is(t, fmt.Sprint("Pin ", pins), slot, want)
		}
	}
}

// TestManyUnpins: of those who free the same slot one alone is told that he has.
func TestManyUnpins(t *testing.T) {
	for range 2000 {
		x := New(2)
		pinAll(x)
		var done atomic.Int64
		together(sides, func(side int) {
			if x.Unpin(side%2) == api.OK {
				done.Add(1)
			}
		})
		is(t, "Unpin", []int{int(done.Load()), x.Pinned(0), x.Pinned(1)}, []int{2, 0, 0})
	}
}

// TestManyPublish: each is told an epoch of its own, and Now never falls.
func TestManyPublish(t *testing.T) {
	const each = 2000
	x := New(1)
	var got [sides][]int
	together(sides, func(side int) {
		for range each {
			before := x.Now()
			n := x.Publish()
			after := x.Now()
			if before >= n || n > after {
				t.Errorf("Publish: %d between %d and %d", n, before, after)
			}
			got[side] = append(got[side], n)
		}
	})
	all := slices.Concat(got[:]...)
	slices.Sort(all)
	for i, n := range all {
		if n != i+2 {
			t.Fatalf("Publish: %d, want %d", n, i+2)
		}
	}
}

// TestEachOnceTogether: what many retire, and reclaim, is told once each.
func TestEachOnceTogether(t *testing.T) {
	const each = 1500
	x := New(3)
	var gone [sides][]int
	together(sides, func(side int) {
		r := rand.New(rand.NewSource(int64(side)))
		for n := range each {
			x.Retire(side*each + n)
			switch r.Intn(5) {
			case 0:
				x.Publish()
			case 1:
				if slot, err := x.Pin(); err == api.OK {
					gone[side] = append(gone[side], x.Reclaim()...)
					x.Unpin(slot)
				}
			case 2:
				gone[side] = append(gone[side], x.Reclaim()...)
			}
		}
	})
	all := slices.Concat(append(gone[:], x.Reclaim())...)
	slices.Sort(all)
	is(t, "how many", len(all), sides*each)
	for n, id := range all {
		if id != n {
			t.Fatalf("Reclaim: %d, want %d", id, n)
		}
	}
}

// TestNobodySeesWhatIsGone: readers pin and read what is current; who replaces it retires the old one, and what is reclaimed is marked. No reader meets a mark between Pin and Unpin.
func TestNobodySeesWhatIsGone(t *testing.T) {
	type thing struct {
		id   int
		gone atomic.Bool
	}
	const changes = 6000
	x := New(4)
	var current atomic.Pointer[thing]
	current.Store(&thing{})
	things := sync.Map{}
	things.Store(0, current.Load())
	var next, met atomic.Int64
	together(sides, func(side int) {
		for range changes {
			if side%4 == 0 {
				fresh := &thing{id: int(next.Add(1))}
				things.Store(fresh.id, fresh)
				old := current.Swap(fresh)
				x.Retire(old.id)
				x.Publish()
				for _, id := range x.Reclaim() {
					th, _ := things.LoadAndDelete(id)
					if th.(*thing).gone.Swap(true) {
						t.Errorf("%d is told twice", id)
					}
				}
				continue
			}
			slot, err := x.Pin()
			if err != api.OK {
				continue
			}
			seen := current.Load()
			for range 20 {
				if seen.gone.Load() {
					met.Add(1)
				}
			}
			is(t, "Unpin", x.Unpin(slot), api.OK)
		}
	})
	is(t, "met", met.Load(), 0)
	left := len(x.Waiting())
	is(t, "the rest", len(x.Reclaim()), left)
}

// TestMinStaysBelow: while somebody holds an epoch Min is never above it.
func TestMinStaysBelow(t *testing.T) {
	x := New(api.MaxPins)
	together(sides, func(side int) {
		for range 2000 {
			slot, err := x.Pin()
			if err != api.OK {
				t.Errorf("Pin: %v", err)
				return
			}
			held := x.Pinned(slot)
			if held < 1 || held > x.Now() || x.Min() > held || x.Publish() <= held || x.Pinned(slot) != held {
				t.Errorf("slot %d holds %d", slot, held)
			}
			x.Unpin(slot)
		}
	})
}

// TestWaitingInOrder: what is told while others change it is in order, and nothing stands there that nobody retired.
func TestWaitingInOrder(t *testing.T) {
	x := New(2)
	together(sides, func(side int) {
		for n := range 400 {
			switch side % 4 {
			case 0:
				x.Retire(-n)
			case 1:
				x.Publish()
			case 2:
				x.Reclaim()
				x.Retire(n)
			default:
				l := x.Waiting()
				rises := slices.IsSortedFunc(l, func(a, b Item) int {
					if a.Epoch != b.Epoch {
						return a.Epoch - b.Epoch
					}
					return a.Id - b.Id
				})
				is(t, "in order", rises, true)
				for _, i := range l {
					if i.Epoch < 1 || i.Epoch > x.Now() || i.Id < -400 || i.Id > 400 {
						t.Errorf("waits: %v", i)
					}
				}
			}
		}
	})
}

// call is a step of a side, with its answer, and when it began and ended.
type call struct {
	step       step
	answer     string
	begin, end int64
}

// TestOneBehindTheOther: whatever a few sides are answered at once might have been answered one behind the other, each between its begin and its end.
func TestOneBehindTheOther(t *testing.T) {
	for seed := range int64(4000) {
		r := rand.New(rand.NewSource(seed))
		pins := 1 + r.Intn(3)
		b := newBoth(pins)
		for range r.Intn(8) {
			b.take(t, "first", anyStep(r, pins))
		}
		var calls [4][]call
		for side := range calls {
			for range 3 {
				calls[side] = append(calls[side], call{step: anyStep(r, pins)})
			}
		}
		var clock atomic.Int64
		together(len(calls), func(side int) {
			for n := range calls[side] {
				c := &calls[side][n]
				c.begin = clock.Add(1)
				got := c.step.do(b.x)
				c.end = clock.Add(1)
				c.answer = written(got)
			}
		})
		if !inOneOrder(b.o, calls) {
			t.Errorf("seed %d: in no order: %v", seed, calls)
		}
	}
}

// inOneOrder: whether the second telling gives all answers, in an order in which nobody is behind one that began only when he had ended.
func inOneOrder(o *oEpochs, calls [4][]call) bool {
	last := int64(1 << 62)
	left := false
	for _, l := range calls {
		if len(l) > 0 {
			left = true
			last = min(last, l[0].end)
		}
	}
	if !left {
		return true
	}
	for side, l := range calls {
		if len(l) == 0 || l[0].begin > last {
			continue
		}
		then, rest := o.copied(), calls
		rest[side] = l[1:]
		if written(l[0].step.tell(then)) == l[0].answer && inOneOrder(then, rest) {
			return true
		}
	}
	return false
}
