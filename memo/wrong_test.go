package memo

import (
	"fmt"
	"math"
	"slices"
	"strings"
	"testing"
)

// TestUnmade: a Table that no call made answers nothing, and stays as it is.
func TestUnmade(t *testing.T) {
	for n, m := range unmade() {
		for range 2 {
			for _, i := range ends() {
				is(t, fmt.Sprint("Home ", n), []int{m.Home(i, 7), m.Home(7, i)}, []int{0, 0})
				is(t, fmt.Sprint("Load ", n), loaded(m.Load(i)), loaded(Entry{}, false))
				is(t, fmt.Sprint("Cas ", n), m.Cas(i, of(i, i, "a")), false)
				is(t, fmt.Sprint("Put ", n), m.Put(of(i, i, "a")), false)
				is(t, fmt.Sprint("Get ", n), got(m.Get(i, i)), got(nil, false))
			}
			is(t, fmt.Sprint("Size and Used ", n), []int{m.Size(), m.Used()}, []int{0, 0})
			m.Clear()
		}
	}
}

// TestNothingBesideFalse: what is told beside a false is zero.
func TestNothingBesideFalse(t *testing.T) {
	m := New(2)
	m.Put(of(1, 1, "a"))
	for _, i := range []int{-1, 1, 2} {
		e, ok := m.Load(i)
		is(t, fmt.Sprint("Load ", i), []any{e.Epoch, e.Node, e.Style == nil, ok}, []any{0, 0, true, false})
	}
	style, ok := m.Get(1, 2)
	is(t, "Get", []any{style == nil, ok}, []any{true, false})
}

// TestNumbersAtTheEnds: epochs and nodes may be any, and each two of them are others.
func TestNumbersAtTheEnds(t *testing.T) {
	for _, size := range []int{1, 7, 300, 65536} {
		m, o := New(size), oNew(min(size, 300))
		for _, epoch := range ends() {
			for _, node := range ends() {
				e := of(epoch, node, fmt.Sprint(epoch, " ", node))
				if size <= 300 {
					is(t, fmt.Sprint("Put ", size, e), m.Put(e), o.put(e))
					continue
				}
				is(t, fmt.Sprint("Put ", size, e), m.Put(e), true)
			}
		}
		for _, epoch := range ends() {
			for _, node := range ends() {
				want := got([]string{fmt.Sprint(epoch, " ", node)}, true)
				if size <= 300 {
					want = got(o.get(epoch, node))
				}
				is(t, fmt.Sprint("Get ", size, epoch, node), got(m.Get(epoch, node)), want)
			}
		}
	}
}

// TestTexts: a style's texts may be any, those that are no characters and long ones too.
func TestTexts(t *testing.T) {
	long := strings.Repeat("\xf0\x9f", 1<<21)
	style := []string{"", "\x00", "\xff\xfe", "\xed\xa0\x80", "ä\r\n", long, long + "x"}
	m := New(2)
	is(t, "Put and Cas", []bool{m.Put(Entry{0, 0, style}), m.Cas(1, Entry{0, 1, style})}, []bool{true, true})
	for node := range 2 {
		told, ok := m.Get(0, node)
		is(t, "Get", []any{slices.Equal(told, style), ok}, []any{true, true})
		e, ok := m.Load(node)
		is(t, "Load", []any{slices.Equal(e.Style, style), ok}, []any{true, true})
	}
}

// TestManyTexts: a style may be of any length.
func TestManyTexts(t *testing.T) {
	style := make([]string, 1<<20)
	for i := range style {
		style[i] = "v"
	}
	m := New(1)
	m.Put(Entry{1, 1, style})
	told, ok := m.Get(1, 1)
	is(t, "Get", []any{slices.Equal(told, style), ok}, []any{true, true})
}

// TestGreatest: a table of the greatest size is filled, is full, and is cleared.
func TestGreatest(t *testing.T) {
	const size = 65536
	m := New(size)
	for i := range size {
		node := math.MinInt + 3*i
		if !m.Put(of(0, node, fmt.Sprint(i))) {
			t.Fatalf("Put %d: no room", i)
		}
	}
	is(t, "Used and Size", []int{m.Used(), m.Size()}, []int{size, size})
	for i := range size {
		if l, ok := m.Get(0, math.MinInt+3*i); !ok || l[0] != fmt.Sprint(i) {
			t.Fatalf("Get %d: %v", i, l)
		}
	}
	is(t, "full", []any{m.Put(of(0, 5, "x")), got(m.Get(0, 5))}, []any{false, got(nil, false)})
	m.Clear()
	is(t, "cleared", []any{m.Used(), m.Size(), m.Put(of(0, 5, "x"))}, []any{0, size, true})
}

// TestAllOfOneHome: very many that have the same home.
func TestAllOfOneHome(t *testing.T) {
	const size = 4096
	m := New(size)
	for i := range size + 10 {
		is(t, fmt.Sprint("Put ", i), m.Put(of(0, 4000+i*size, fmt.Sprint(i))), i < size)
	}
	for i := range size + 10 {
		_, ok := m.Get(0, 4000+i*size)
		is(t, fmt.Sprint("Get ", i), ok, i < size)
		e, ok := m.Load((4000 + i) % size)
		is(t, fmt.Sprint("Load ", i), []any{e.Node, ok}, []any{4000 + i%size*size, true})
	}
}
