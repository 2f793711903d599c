package memo

import (
	"fmt"
	"math/rand"
	"testing"
)

// P19.3

type key struct{ epoch, node int }

// TestGetTellsTheFirst: what was put first for an epoch and node since the last Clear, or nothing if there was no room; and nothing that nobody put.
func TestGetTellsTheFirst(t *testing.T) {
	for seed := range int64(2000) {
		r := rand.New(rand.NewSource(seed))
		m, first := New(r.Intn(12)), map[key]string{}
		for n := range 80 {
			k, mark := key{r.Intn(4) - 1, r.Intn(10) - 3}, fmt.Sprint(n)
			if m.Put(of(k.epoch, k.node, mark)) {
				is(t, fmt.Sprint(seed, n, " put once"), first[k], "")
				first[k] = mark
			} else if first[k] == "" {
				is(t, fmt.Sprint(seed, n, " refused"), m.Used(), m.Size())
			}
			if r.Intn(60) == 0 {
				m.Clear()
				clear(first)
			}
			is(t, fmt.Sprint(seed, n, " Used"), m.Used(), len(first))
			asked := key{r.Intn(4) - 1, r.Intn(10) - 3}
			want := got(nil, false)
			if mark := first[asked]; mark != "" {
				want = got([]string{mark}, true)
			}
			is(t, fmt.Sprint(seed, n, " Get"), got(m.Get(asked.epoch, asked.node)), want)
		}
	}
}

// TestFullOnlyForgets: of many only as many are kept as there are cells, those that came first; each of them is told as it was put.
func TestFullOnlyForgets(t *testing.T) {
	for _, size := range sizes() {
		for seed := range int64(10) {
			r := rand.New(rand.NewSource(seed))
			m := New(size)
			order := r.Perm(2*size + 3)
			for n, i := range order {
				e := of(r.Intn(3), i, fmt.Sprint("style of ", i))
				order[n] = e.Epoch<<32 + i
				is(t, fmt.Sprint("Put ", size, n), m.Put(e), n < size)
			}
			for n, both := range order {
				want := got(nil, false)
				if n < size {
					want = got([]string{fmt.Sprint("style of ", both&(1<<32-1))}, true)
				}
				is(t, fmt.Sprint("Get ", size, n), got(m.Get(both>>32, both&(1<<32-1))), want)
			}
			is(t, "Used", m.Used(), size)
		}
	}
}

// TestSameTableSameAnswers: what is answered hangs on what was done alone, and a look changes nothing.
func TestSameTableSameAnswers(t *testing.T) {
	for seed := range int64(200) {
		r := rand.New(rand.NewSource(seed))
		a, b, some := newBoth(1+r.Intn(9)), newBoth(1), some(r)
		b.m, b.o = New(a.m.Size()), oNew(a.m.Size())
		one, other := rand.New(rand.NewSource(seed)), rand.New(rand.NewSource(seed))
		for range 50 {
			_, x, _ := a.step(one, some)
			_, y, _ := b.step(other, some)
			is(t, "the same", x, y)
			before := row(b.m)
			for _, n := range some {
				b.m.Get(n, n)
				b.m.Home(n, n)
				b.m.Load(n)
			}
			is(t, "a look", row(b.m), before)
		}
	}
}
