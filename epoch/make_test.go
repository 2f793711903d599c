package epoch

import (
	"fmt"
	"math"
	"math/rand"
	"testing"

	"gouache/api"
)

// is: one thing is the other, as it is written, both with its texts between quotes and with its numbers.
func is(t *testing.T, what string, got, want any) {
	t.Helper()
	if a, b := written(got), written(want); a != b {
		t.Errorf("%.300s: %.900s, want %.900s", what, a, b)
	}
}

func written(x any) string { return fmt.Sprintf("%v %q", x, x) }

// pinned: a slot and an error, beside each other.
func pinned(slot int, err api.Errno) []int { return []int{slot, int(err)} }

// ends: the numbers at the ends of what an int holds, and those beside 0 and MaxPins.
func ends() []int {
	return []int{math.MinInt, math.MinInt + 1, -9, -8, -2, -1, 0, 1, 2, 7, 8, 9, 1 << 32, 1<<32 + 1, math.MaxInt - 1, math.MaxInt}
}

// unmade: Epochs that no call made.
func unmade() []*Epochs { return []*Epochs{nil, {}, New(0), New(api.MaxPins + 1)} }

// told: all that a look tells.
func told(x *Epochs) string {
	var slots []int
	for slot := -2; slot < api.MaxPins+2; slot++ {
		slots = append(slots, x.Pinned(slot))
	}
	return fmt.Sprint(x.Now(), slots, x.Min(), x.Waiting())
}

// pinAll: all slots are held.
func pinAll(x *Epochs) {
	for range api.MaxPins {
		x.Pin()
	}
}

// both: Epochs and their second telling, to which the same is done.
type both struct {
	x *Epochs
	o *oEpochs
}

func newBoth(pins int) both { return both{New(pins), oNew(pins)} }

// kinds: what a step may be.
const (
	publish = iota
	pin
	unpin
	retire
	reclaim
	waiting
	least
	now
	holds
	kinds
)

// step is one call, with its number if it has one.
type step struct{ kind, n int }

func (s step) String() string {
	return []string{"Publish", "Pin", "Unpin", "Retire", "Reclaim", "Waiting", "Min", "Now", "Pinned"}[s.kind] + fmt.Sprint("(", s.n, ")")
}

// do: the step's answer.
func (s step) do(x *Epochs) any {
	switch s.kind {
	case publish:
		return x.Publish()
	case pin:
		return pinned(x.Pin())
	case unpin:
		return x.Unpin(s.n)
	case retire:
		return x.Retire(s.n)
	case reclaim:
		return x.Reclaim()
	case waiting:
		return x.Waiting()
	case least:
		return x.Min()
	case now:
		return x.Now()
	}
	return x.Pinned(s.n)
}

// tell: the answer of the second telling.
func (s step) tell(o *oEpochs) any {
	switch s.kind {
	case publish:
		return o.publish()
	case pin:
		return pinned(o.pin())
	case unpin:
		return o.unpin(s.n)
	case retire:
		return o.retire(s.n)
	case reclaim:
		return o.reclaim()
	case waiting:
		return o.waiting()
	case least:
		return o.min()
	case now:
		return o.now
	}
	return o.pinned(s.n)
}

// take: the step is done to both, which tell the same, then and from then on.
func (b both) take(t *testing.T, what string, s step) {
	t.Helper()
	is(t, fmt.Sprint(what, " ", s), s.do(b.x), s.tell(b.o))
	is(t, fmt.Sprint(what, " behind ", s), told(b.x), b.o.told())
}

// anyStep: a step by chance.
func anyStep(r *rand.Rand, pins int) step {
	s := step{kind: r.Intn(kinds)}
	switch s.kind {
	case unpin, holds:
		s.n = r.Intn(pins+2) - 1
	case retire:
		s.n = r.Intn(9) - 4
		if r.Intn(6) == 0 {
			s.n = ends()[r.Intn(len(ends()))]
		}
	}
	return s
}
