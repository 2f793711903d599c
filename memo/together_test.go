package memo

import (
	"fmt"
	"math/rand"
	"slices"
	"sync"
	"sync/atomic"
	"testing"
)

const sides = 8

// together: what each of several sides does, all at once.
func together(do func(side int)) {
	var group sync.WaitGroup
	begin := make(chan struct{})
	for side := range sides {
		group.Add(1)
		go func() {
			defer group.Done()
			<-begin
			do(side)
		}()
	}
	close(begin)
	group.Wait()
}

// TestOneOfManyPuts: of those who put for one epoch and node one alone is told true, and his style is told.
func TestOneOfManyPuts(t *testing.T) {
	for n := range 3000 {
		m := New(1 + n%5)
		var won [sides]bool
		together(func(side int) { won[side] = m.Put(of(n, n, fmt.Sprint(side))) })
		oneAlone(t, won, m)
		who := slices.Index(won[:], true)
		is(t, "his style", got(m.Get(n, n)), got([]string{fmt.Sprint(who)}, true))
	}
}

// oneAlone: one side was told true, and one cell is used.
func oneAlone(t *testing.T, won [sides]bool, m *Table) {
	t.Helper()
	n := 0
	for _, w := range won {
		if w {
			n++
		}
	}
	is(t, "one alone", []int{n, m.Used()}, []int{1, 1})
}

// TestOneOfManyCas: a cell is filled once.
func TestOneOfManyCas(t *testing.T) {
	for n := range 3000 {
		m := New(3)
		var won [sides]bool
		together(func(side int) { won[side] = m.Cas(n%3, of(side, n, fmt.Sprint(side))) })
		oneAlone(t, won, m)
		who := slices.Index(won[:], true)
		is(t, "his entry", loaded(m.Load(n%3)), loaded(of(who, n, fmt.Sprint(who)), true))
	}
}

// TestManyPuts: of many that differ as many are kept as there are cells, each once; who was told true is found, by all, from then on.
func TestManyPuts(t *testing.T) {
	for n := range 400 {
		size := 1 + n%40
		m := New(size)
		var won [sides][]Entry
		together(func(side int) {
			for i := range 8 {
				e := of(side, i*size, fmt.Sprint(side, i))
				if m.Put(e) {
					won[side] = append(won[side], e)
				}
				for _, e := range won[side] {
					is(t, "found at once", got(m.Get(e.Epoch, e.Node)), got(e.Style, true))
				}
			}
		})
		all := slices.Concat(won[:]...)
		is(t, "how many", []int{len(all), m.Used()}, []int{min(size, 8*sides), min(size, 8*sides)})
		for _, e := range all {
			is(t, "found", got(m.Get(e.Epoch, e.Node)), got(e.Style, true))
		}
	}
}

// TestNoHoles: entries of one home stand behind one another, and none of them twice, however they came.
func TestNoHoles(t *testing.T) {
	for range 400 {
		m := New(64)
		together(func(side int) {
			for i := range 6 {
				m.Put(of(0, 64*((i+side)%6), "a"))
			}
		})
		var nodes []int
		for i := range 6 {
			e, ok := m.Load(i)
			is(t, "there", ok, true)
			nodes = append(nodes, e.Node)
		}
		slices.Sort(nodes)
		is(t, "each once", []any{nodes, m.Used()}, []any{[]int{0, 64, 128, 192, 256, 320}, 6})
	}
}

// TestUsedRises: while nobody clears, Used and what is found never become less.
func TestUsedRises(t *testing.T) {
	for range 100 {
		m := New(200)
		together(func(side int) {
			last, found := 0, 0
			for i := range 40 {
				if side%2 == 0 {
					m.Put(of(side, 17*i, "a"))
				}
				used, there := m.Used(), 0
				for j := range 40 {
					if _, ok := m.Get(0, 17*j); ok {
						there++
					}
				}
				if used < last || there < found || used > 200 {
					t.Errorf("Used %d behind %d, found %d behind %d", used, last, there, found)
				}
				last, found = used, there
			}
		})
	}
}

// TestWholly: what is told is one entry's, as it was put, while others put and clear.
func TestWholly(t *testing.T) {
	m := New(16)
	together(func(side int) {
		r := rand.New(rand.NewSource(int64(side)))
		for range 8000 {
			epoch, node := r.Intn(3), r.Intn(20)
			mark := fmt.Sprint(epoch, " ", node)
			switch r.Intn(8) {
			case 0, 1, 2:
				style := []string{mark, fmt.Sprint(side), fmt.Sprint(side)}
				m.Put(Entry{epoch, node, style})
				spoil(style)
			case 3, 4, 5:
				if l, ok := m.Get(epoch, node); ok {
					whole(t, mark, l)
				}
			case 6:
				if e, ok := m.Load(r.Intn(16)); ok {
					whole(t, fmt.Sprint(e.Epoch, " ", e.Node), e.Style)
				}
			default:
				if r.Intn(20) == 0 {
					m.Clear()
				}
			}
		}
	})
	m.Clear()
	is(t, "at last", []int{m.Used(), m.Size()}, []int{0, 16})
}

func whole(t *testing.T, mark string, l []string) {
	if len(l) != 3 || l[0] != mark || l[1] != l[2] {
		t.Errorf("told of %s: %q", mark, l)
	}
	spoil(l)
}

// TestClearAtOnce: a Clear is there wholly or not at all: who finds one entry gone finds none of those that were there with it.
func TestClearAtOnce(t *testing.T) {
	for range 300 {
		m := New(2000)
		for node := range 2000 {
			m.Put(of(0, node, "a"))
		}
		together(func(side int) {
			if side == 0 {
				m.Clear()
				return
			}
			gone := false
			for i := range 2000 {
				_, ok := m.Get(0, i)
				if ok && gone {
					t.Errorf("found %d behind one that was gone", i)
					return
				}
				gone = gone || !ok
			}
		})
		is(t, "Used", m.Used(), 0)
	}
}

// TestUsedWhileCleared: nobody counts part of what was there, if nobody puts.
func TestUsedWhileCleared(t *testing.T) {
	for range 300 {
		m := New(3000)
		for node := range 3000 {
			m.Cas(node, Entry{})
		}
		together(func(side int) {
			if side == 0 {
				m.Clear()
				return
			}
			last := 3000
			for range 5 {
				n := m.Used()
				if n != 0 && n != 3000 || n > last {
					t.Errorf("Used: %d behind %d", n, last)
				}
				last = n
			}
		})
	}
}

// TestNobodyWaits: many who put and clear all come to an end, and no table has more than its cells.
func TestNobodyWaits(t *testing.T) {
	for size := range 5 {
		m := New(size)
		var puts atomic.Int64
		together(func(side int) {
			for i := range 4000 {
				if m.Put(of(i%3, i%7, "a")) {
					puts.Add(1)
				}
				if i%5 == side%5 {
					m.Clear()
				}
				if n := m.Used(); n > size {
					t.Errorf("Used: %d of %d", n, size)
				}
			}
		})
		is(t, "somebody put", puts.Load() > 0, size > 0)
	}
}
