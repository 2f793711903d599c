package epoch

import (
	"fmt"
	"math"
	"slices"
	"testing"

	"gouache/api"
)

// P20.1

func TestNew(t *testing.T) {
	for pins := 1; pins <= api.MaxPins; pins++ {
		x := New(pins)
		if x == nil {
			t.Fatalf("New(%d): nil", pins)
		}
		is(t, fmt.Sprint("Now and Min ", pins), []int{x.Now(), x.Min()}, []int{1, 1})
		is(t, fmt.Sprint("Waiting ", pins), x.Waiting(), []Item{})
		for slot := range pins {
			is(t, fmt.Sprint("Pinned ", pins, slot), x.Pinned(slot), 0)
			is(t, fmt.Sprint("Unpin ", pins, slot), x.Unpin(slot), api.ErrIndex)
		}
		is(t, fmt.Sprint("Reclaim ", pins), x.Reclaim(), []int{})
	}
}

func TestNewOfNoPins(t *testing.T) {
	for _, pins := range []int{-1, 0, api.MaxPins + 1, api.MaxPins + 2, -api.MaxPins, 1 << 32, 1<<32 + 1, math.MinInt, math.MinInt + 1, math.MaxInt} {
		is(t, fmt.Sprint("New ", pins), New(pins) == nil, true)
	}
}

// TestNewEachForItself: what is done with one is not to be seen in another one.
func TestNewEachForItself(t *testing.T) {
	a, b := New(2), New(2)
	before := told(b)
	a.Pin()
	a.Publish()
	a.Retire(7)
	a.Pin()
	is(t, "the other one", told(b), before)
}

func TestNowAndPublish(t *testing.T) {
	x := New(1)
	for n := 2; n < 1000; n++ {
		is(t, "Publish", x.Publish(), n)
		is(t, "Now", []int{x.Now(), x.Now(), x.Min()}, []int{n, n, n})
	}
}

// TestSlotsInTurn: each Pin holds the first free slot, and Now as it is then.
func TestSlotsInTurn(t *testing.T) {
	for pins := 1; pins <= api.MaxPins; pins++ {
		x := New(pins)
		for slot := range pins {
			is(t, fmt.Sprint("Pin ", pins), pinned(x.Pin()), pinned(slot, api.OK))
			x.Publish()
			for other := range pins {
				want := 0
				if other <= slot {
					want = other + 1
				}
				is(t, fmt.Sprint("Pinned ", pins, other), x.Pinned(other), want)
			}
			is(t, "Min", x.Min(), 1)
		}
		before := told(x)
		is(t, "all are held", pinned(x.Pin()), pinned(0, api.ErrBusy))
		is(t, "and again", pinned(x.Pin()), pinned(0, api.ErrBusy))
		is(t, "nothing has changed", told(x), before)
	}
}

// TestOneEpochManySlots: several may hold the same one.
func TestOneEpochManySlots(t *testing.T) {
	x := New(3)
	x.Publish()
	for slot := range 3 {
		is(t, "Pin", pinned(x.Pin()), pinned(slot, api.OK))
	}
	is(t, "Pinned", []int{x.Pinned(0), x.Pinned(1), x.Pinned(2), x.Min()}, []int{2, 2, 2, 2})
	x.Unpin(0)
	x.Unpin(1)
	x.Publish()
	is(t, "one is left", []int{x.Pinned(0), x.Pinned(1), x.Pinned(2), x.Min()}, []int{0, 0, 2, 2})
}

// TestFreedInTheMiddle: the first free slot is taken, at the epoch that is then.
func TestFreedInTheMiddle(t *testing.T) {
	for pins := 1; pins <= api.MaxPins; pins++ {
		for freed := range pins {
			x := New(pins)
			pinAll(x)
			x.Publish()
			x.Publish()
			is(t, "Unpin", x.Unpin(freed), api.OK)
			is(t, "free", x.Pinned(freed), 0)
			is(t, "Pin", pinned(x.Pin()), pinned(freed, api.OK))
			is(t, "Pinned", x.Pinned(freed), 3)
			is(t, "all are held", pinned(x.Pin()), pinned(0, api.ErrBusy))
		}
	}
}

// TestFreedTwo: the lower one is taken first, in whatever order they were freed.
func TestFreedTwo(t *testing.T) {
	for a := range api.MaxPins {
		for b := range api.MaxPins {
			if a == b {
				continue
			}
			x := New(api.MaxPins)
			pinAll(x)
			x.Unpin(a)
			x.Unpin(b)
			is(t, "the first", pinned(x.Pin()), pinned(min(a, b), api.OK))
			is(t, "the second", pinned(x.Pin()), pinned(max(a, b), api.OK))
		}
	}
}

func TestUnpin(t *testing.T) {
	x := New(3)
	is(t, "free", x.Unpin(1), api.ErrIndex)
	x.Pin()
	x.Pin()
	is(t, "held", x.Unpin(0), api.OK)
	is(t, "twice", x.Unpin(0), api.ErrIndex)
	is(t, "the other one stays", []int{x.Pinned(0), x.Pinned(1), x.Pinned(2)}, []int{0, 1, 0})
	is(t, "never held", x.Unpin(2), api.ErrIndex)
	is(t, "the other one", x.Unpin(1), api.OK)
	is(t, "twice", x.Unpin(1), api.ErrIndex)
}

func TestNoSuchSlot(t *testing.T) {
	for pins := 1; pins <= api.MaxPins; pins++ {
		x := New(pins)
		x.Publish()
		pinAll(x)
		before := told(x)
		for _, slot := range append(ends(), pins, pins+1, -pins) {
			if 0 <= slot && slot < pins {
				continue
			}
			is(t, fmt.Sprint("Pinned ", pins, slot), x.Pinned(slot), 0)
			is(t, fmt.Sprint("Unpin ", pins, slot), x.Unpin(slot), api.ErrIndex)
		}
		is(t, "nothing has changed", told(x), before)
	}
}

func TestMin(t *testing.T) {
	x := New(3)
	is(t, "all are free", x.Min(), 1)
	x.Publish()
	is(t, "all are free", x.Min(), 2)
	x.Pin()
	is(t, "at Now", x.Min(), 2)
	x.Publish()
	is(t, "held", x.Min(), 2)
	x.Pin()
	x.Publish()
	x.Pin()
	is(t, "the least of three", x.Min(), 2)
	x.Unpin(1)
	is(t, "the least of two", x.Min(), 2)
	x.Unpin(0)
	is(t, "the greatest", x.Min(), 4)
	x.Pin()
	x.Publish()
	x.Pin()
	is(t, "slots 0 to 2", []int{x.Pinned(0), x.Pinned(1), x.Pinned(2), x.Min()}, []int{4, 5, 4, 4})
	x.Unpin(0)
	x.Unpin(2)
	is(t, "in the middle alone", x.Min(), 5)
	x.Unpin(1)
	is(t, "all are free again", x.Min(), 5)
	x.Publish()
	is(t, "and rises", x.Min(), 6)
}

// TestMinOfAllOrders: epochs stand in the slots in any order.
func TestMinOfAllOrders(t *testing.T) {
	for _, order := range orders([]int{0, 1, 2, 3}) {
		x := New(4)
		pinAll(x)
		for _, slot := range order {
			x.Unpin(slot)
			x.Publish()
			x.Pin()
		}
		for n, slot := range order {
			is(t, fmt.Sprint("Pinned ", order), x.Pinned(slot), n+2)
		}
		for n, slot := range order {
			is(t, fmt.Sprint("Min ", order), x.Min(), n+2)
			x.Unpin(slot)
		}
		is(t, "Now", x.Min(), 5)
	}
}

// orders: all orders of a list.
func orders(l []int) [][]int {
	if len(l) == 0 {
		return [][]int{nil}
	}
	var out [][]int
	for i := range l {
		for _, rest := range orders(slices.Delete(slices.Clone(l), i, i+1)) {
			out = append(out, append([]int{l[i]}, rest...))
		}
	}
	return out
}
