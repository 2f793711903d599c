package memo

import (
	"fmt"
	"math"
	"testing"
)

// P19.1

func TestNew(t *testing.T) {
	for _, size := range append(sizes(), 65535, 65536) {
		m := New(size)
		if m == nil {
			t.Fatalf("New(%d): nil", size)
		}
		is(t, fmt.Sprint("New ", size), []int{m.Size(), m.Used()}, []int{size, 0})
		for i := range size {
			if e, ok := m.Load(i); ok || e.Style != nil || e.Epoch != 0 || e.Node != 0 {
				t.Fatalf("New(%d): cell %d has %v", size, i, e)
			}
		}
	}
}

func TestNewOfNoSize(t *testing.T) {
	for _, size := range []int{-1, -2, 65537, 65538, -65536, 1 << 20, 1 << 32, 1<<32 + 1, math.MinInt, math.MinInt + 1, math.MaxInt} {
		is(t, fmt.Sprint("New ", size), New(size) == nil, true)
	}
}

// TestNewEachForItself: what is put into one table is not in another one.
func TestNewEachForItself(t *testing.T) {
	a, b := New(2), New(2)
	a.Put(of(1, 1, "a"))
	is(t, "the other", []any{b.Used(), got(b.Get(1, 1))}, []any{0, got(nil, false)})
	b.Put(of(1, 1, "b"))
	a.Clear()
	is(t, "the other one stays", []any{a.Used(), got(b.Get(1, 1))}, []any{0, got([]string{"b"}, true)})
}

func TestHome(t *testing.T) {
	for _, c := range []struct{ size, epoch, node, home int }{
		{2, 1, 1, 0},
		{2, 1, 3, 0},
		{2, 1, 2, 1},
		{7, 0, 0, 0},
		{7, 0, 6, 6},
		{7, 0, 7, 0},
		{7, 1, 0, 3},
		{7, 1, 4, 0},
		{7, 2, 0, 6},
		{1, 5, 9, 0},
		{1, -5, math.MinInt, 0},
		{1000, 3, 8, 101},
		{65536, 2114, 1, 65535},
		{65536, 2114, 2, 0},
		{31, 77, 5, 5},
		// 2^64 is 2 modulo 7, and 6 modulo 10.
		{7, 0, -1, 1},
		{7, -1, 0, 6},
		{7, -1, -1, 5},
		{7, -1, 31, 0},
		{7, -1, 32, 1},
		{10, 0, -1, 5},
		{10, 0, -2, 4},
		{10, math.MinInt, 0, 8},
		{10, 0, math.MinInt, 8},
		{10, math.MinInt, math.MinInt, 0},
		{10, math.MaxInt, 0, 7},
		{10, 0, math.MaxInt, 7},
		{10, math.MaxInt, math.MinInt, 5},
		{10, math.MaxInt, math.MaxInt, 4},
	} {
		is(t, fmt.Sprint("Home ", c), New(c.size).Home(c.epoch, c.node), c.home)
	}
}

func TestHomeByNumbersWithoutEnd(t *testing.T) {
	for _, size := range append(sizes(), 65535, 65536) {
		m := New(size)
		for _, epoch := range ends() {
			for _, node := range ends() {
				is(t, fmt.Sprint("Home ", size, epoch, node), m.Home(epoch, node), oHome(size, epoch, node))
			}
		}
	}
}

// TestHomeStays: what is in the table counts for nothing.
func TestHomeStays(t *testing.T) {
	m := New(5)
	before := m.Home(3, 4)
	for i := range 5 {
		m.Cas(i, of(3, 4))
	}
	is(t, "full", m.Home(3, 4), before)
	m.Clear()
	is(t, "cleared", m.Home(3, 4), before)
}

func TestLoadAndCas(t *testing.T) {
	m := New(3)
	is(t, "empty", loaded(m.Load(1)), loaded(Entry{}, false))
	is(t, "Cas", m.Cas(1, of(8, -9, "a", "b")), true)
	is(t, "Load", loaded(m.Load(1)), loaded(of(8, -9, "a", "b"), true))
	is(t, "another one", m.Cas(1, of(7, 7, "c")), false)
	is(t, "the same one", m.Cas(1, of(8, -9, "a", "b")), false)
	is(t, "it stays", row(m), `- 8:-9["a" "b"] - `)
	is(t, "beside it", []bool{m.Cas(0, of(0, 0)), m.Cas(2, of(0, 0))}, []bool{true, true})
	is(t, "all", row(m), `0:0[] 8:-9["a" "b"] 0:0[] `)
	is(t, "Used and Size", []int{m.Used(), m.Size()}, []int{3, 3})
}

// TestCasAnywhere: an entry stands where Cas puts it, its home counts for nothing.
func TestCasAnywhere(t *testing.T) {
	for i := range 7 {
		m := New(7)
		is(t, fmt.Sprint("Cas ", i), m.Cas(i, of(1, 1, "a")), true)
		for j := range 7 {
			_, ok := m.Load(j)
			is(t, fmt.Sprint("Load ", i, j), ok, i == j)
		}
	}
}

func TestNoSuchCell(t *testing.T) {
	for _, size := range sizes() {
		m := New(size)
		for i := range size {
			m.Cas(i, of(i, i))
		}
		before := row(m)
		for _, i := range []int{-1, -2, -size, size, size + 1, 2*size + 1, -size - 1, 65536, 1 << 32, math.MinInt, math.MinInt + 1, math.MaxInt} {
			if 0 <= i && i < size {
				continue
			}
			is(t, fmt.Sprint("Load ", size, i), loaded(m.Load(i)), loaded(Entry{}, false))
			is(t, fmt.Sprint("Cas ", size, i), m.Cas(i, of(1, 1, "a")), false)
		}
		is(t, "it stays", row(m), before)
	}
}

// TestNoSuchCellOfAnEmptyTable: Cas past the end puts nothing anywhere.
func TestNoSuchCellOfAnEmptyTable(t *testing.T) {
	m := New(3)
	for _, i := range []int{-1, -3, 3, 4, 6, math.MinInt, math.MaxInt} {
		is(t, fmt.Sprint("Cas ", i), m.Cas(i, of(1, 1, "a")), false)
	}
	is(t, "all", row(m), "- - - ")
}

func TestSizeZero(t *testing.T) {
	m := New(0)
	for _, n := range ends() {
		is(t, "Home", []int{m.Home(n, 5), m.Home(5, n)}, []int{0, 0})
		is(t, "Load", loaded(m.Load(n)), loaded(Entry{}, false))
		is(t, "Cas", m.Cas(n, of(1, 1, "a")), false)
		is(t, "Put", m.Put(of(n, n, "a")), false)
		is(t, "Get", got(m.Get(n, n)), got(nil, false))
	}
	m.Clear()
	is(t, "Size and Used", []int{m.Size(), m.Used()}, []int{0, 0})
}
