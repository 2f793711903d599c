package epoch

import (
	"fmt"
	"math"
	"math/rand"
	"slices"
	"testing"

	"gouache/api"
)

// P20.2

// TestExample: the chapter's.
func TestExample(t *testing.T) {
	x := New(2)
	is(t, "Pin", pinned(x.Pin()), pinned(0, api.OK))
	is(t, "Retire", x.Retire(7), api.OK)
	is(t, "Publish", x.Publish(), 2)
	is(t, "nothing", x.Reclaim(), []int{})
	is(t, "Unpin", x.Unpin(0), api.OK)
	is(t, "7", x.Reclaim(), []int{7})
	is(t, "once", x.Reclaim(), []int{})
}

func TestWaiting(t *testing.T) {
	x := New(1)
	for _, id := range []int{3, 1, 2, 1, -4, 3} {
		is(t, "Retire", x.Retire(id), api.OK)
	}
	is(t, "by Id", x.Waiting(), []Item{{-4, 1}, {1, 1}, {1, 1}, {2, 1}, {3, 1}, {3, 1}})
	x.Publish()
	x.Publish()
	x.Retire(2)
	x.Retire(-9)
	want := []Item{{-4, 1}, {1, 1}, {1, 1}, {2, 1}, {3, 1}, {3, 1}, {-9, 3}, {2, 3}}
	is(t, "by Epoch", x.Waiting(), want)
	is(t, "and still", x.Waiting(), want)
	is(t, "Reclaim", x.Reclaim(), []int{-4, 1, 1, 2, 3, 3, -9, 2})
	is(t, "none", x.Waiting(), []Item{})
}

// TestRetireTakesNow: an Item has the epoch of its Retire, not of a Pin.
func TestRetireTakesNow(t *testing.T) {
	x := New(2)
	x.Pin()
	for n := 1; n < 20; n++ {
		x.Retire(-n)
		x.Publish()
	}
	for n, i := range x.Waiting() {
		is(t, "Item", i, Item{-n - 1, n + 1})
	}
}

// TestAnyId: ids may be any, in any order.
func TestAnyId(t *testing.T) {
	rise := slices.Sorted(slices.Values(ends()))
	fall := slices.Clone(rise)
	slices.Reverse(fall)
	for seed := range int64(100) {
		r := rand.New(rand.NewSource(seed))
		mixed := slices.Clone(rise)
		r.Shuffle(len(mixed), func(i, j int) { mixed[i], mixed[j] = mixed[j], mixed[i] })
		for _, ids := range [][]int{rise, fall, mixed} {
			x := New(1)
			for _, id := range ids {
				is(t, fmt.Sprint("Retire ", id), x.Retire(id), api.OK)
			}
			is(t, "how many", len(x.Waiting()), len(ids))
			is(t, "Reclaim", x.Reclaim(), rise)
		}
	}
}

func TestSameIdManyTimes(t *testing.T) {
	x := New(1)
	for range 3 {
		x.Retire(5)
		x.Retire(math.MinInt)
		x.Publish()
	}
	x.Retire(5)
	is(t, "Waiting", x.Waiting(), []Item{{math.MinInt, 1}, {5, 1}, {math.MinInt, 2}, {5, 2}, {math.MinInt, 3}, {5, 3}, {5, 4}})
	is(t, "Reclaim", x.Reclaim(), []int{math.MinInt, 5, math.MinInt, 5, math.MinInt, 5, 5})
	x.Retire(5)
	is(t, "and again", x.Reclaim(), []int{5})
}

// TestNobodyHas: with all slots free all are told, those of Now too.
func TestNobodyHas(t *testing.T) {
	x := New(3)
	x.Retire(1)
	is(t, "of Now", x.Reclaim(), []int{1})
	x.Retire(2)
	x.Publish()
	x.Retire(3)
	is(t, "of two epochs", x.Reclaim(), []int{2, 3})
	x.Pin()
	x.Retire(4)
	x.Publish()
	x.Retire(5)
	x.Unpin(0)
	is(t, "who had is gone", x.Reclaim(), []int{4, 5})
}

// TestEpochEqualToMin: who holds an epoch sees what was retired in it.
func TestEpochEqualToMin(t *testing.T) {
	x := New(1)
	x.Retire(1)
	x.Publish()
	x.Retire(2)
	x.Pin()
	x.Retire(3)
	x.Publish()
	x.Retire(4)
	is(t, "below 2", x.Reclaim(), []int{1})
	is(t, "the others wait", x.Waiting(), []Item{{2, 2}, {3, 2}, {4, 3}})
	is(t, "again", x.Reclaim(), []int{})
	x.Unpin(0)
	is(t, "the others", x.Reclaim(), []int{2, 3, 4})
}

// TestEarlyAndLate: of several who have pinned the earliest one counts.
func TestEarlyAndLate(t *testing.T) {
	x := New(3)
	for n := 1; n <= 6; n++ {
		x.Retire(10 * n)
		if n == 2 || n == 4 || n == 5 {
			x.Pin()
		}
		x.Retire(10*n + 1)
		x.Publish()
	}
	is(t, "2", x.Reclaim(), []int{10, 11})
	x.Unpin(1)
	is(t, "2 still", x.Reclaim(), []int{})
	x.Unpin(0)
	is(t, "5", x.Reclaim(), []int{20, 21, 30, 31, 40, 41})
	x.Pin()
	is(t, "5 still", x.Reclaim(), []int{})
	is(t, "Waiting", x.Waiting(), []Item{{50, 5}, {51, 5}, {60, 6}, {61, 6}})
	x.Unpin(2)
	is(t, "7", x.Reclaim(), []int{50, 51, 60, 61})
}

// TestLatePin: who pins behind sees none of what was retired in epochs before.
func TestLatePin(t *testing.T) {
	x := New(1)
	x.Retire(1)
	x.Publish()
	x.Pin()
	is(t, "below", x.Reclaim(), []int{1})
	x.Retire(2)
	is(t, "not below", x.Reclaim(), []int{})
}

// TestAllStepsFromNew: all ways of a few steps, each answer, and all that a look tells behind each.
func TestAllStepsFromNew(t *testing.T) {
	steps := []step{{publish, 0}, {pin, 0}, {unpin, 0}, {unpin, 1}, {retire, 2}, {retire, 1}, {reclaim, 0}}
	for pins := 1; pins <= 2; pins++ {
		var way []step
		var all func(left int)
		all = func(left int) {
			if left == 0 {
				b := newBoth(pins)
				for _, s := range way {
					is(t, fmt.Sprint(pins, way), s.do(b.x), s.tell(b.o))
				}
				is(t, fmt.Sprint(pins, way), told(b.x), b.o.told())
				return
			}
			for _, s := range steps {
				way = append(way, s)
				all(left - 1)
				way = way[:len(way)-1]
			}
		}
		for left := range 6 {
			all(left)
		}
	}
}

// TestByChance: long ways, with all that a look tells behind each step.
func TestByChance(t *testing.T) {
	for seed := range int64(1500) {
		r := rand.New(rand.NewSource(seed))
		pins := 1 + r.Intn(api.MaxPins)
		b := newBoth(pins)
		for n := range 60 {
			b.take(t, fmt.Sprint(seed, " ", n), anyStep(r, pins))
		}
	}
}
