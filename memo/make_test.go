package memo

import (
	"fmt"
	"math"
	"math/rand"
	"slices"
	"testing"
)

// is: one thing is the other, as it is written, both with its texts between quotes and with its numbers.
func is(t *testing.T, what string, got, want any) {
	t.Helper()
	if a, b := written(got), written(want); a != b {
		t.Errorf("%.300s: %.900s, want %.900s", what, a, b)
	}
}

func written(x any) string { return fmt.Sprintf("%v %q", x, x) }

// got: a style and whether there is one, beside each other.
func got(style []string, ok bool) []any { return []any{style, ok} }

// loaded: an entry and whether there is one, beside each other.
func loaded(e Entry, ok bool) []any { return []any{e.Epoch, e.Node, e.Style, ok} }

// of: an entry.
func of(epoch, node int, style ...string) Entry { return Entry{epoch, node, style} }

// row: what is in all cells: an empty one is told as -.
func row(m *Table) string {
	out := ""
	for i := range m.Size() {
		if e, ok := m.Load(i); ok {
			out += fmt.Sprintf("%d:%d%q ", e.Epoch, e.Node, e.Style)
		} else {
			out += "- "
		}
	}
	return out
}

// ends: the numbers at the ends of what an int holds, and those beside 0.
func ends() []int {
	return []int{math.MinInt, math.MinInt + 1, -65537, -32, -31, -2, -1, 0, 1, 2, 30, 31, 32, 65535, 65536, math.MaxInt - 1, math.MaxInt}
}

// sizes: those that a table may have, of which the tests try all calls.
func sizes() []int { return []int{0, 1, 2, 3, 4, 5, 7, 8, 16, 31, 33, 64, 1000} }

// unmade: Tables that no call made.
func unmade() []*Table { return []*Table{nil, {}, New(-1), New(65537)} }

// both: a table and its second telling, to which the same is done.
type both struct {
	m *Table
	o *oTable
}

func newBoth(size int) both { return both{New(size), oNew(size)} }

// step: does one thing by chance to both, and tells both answers.
func (b both) step(r *rand.Rand, some []int) (string, any, any) {
	epoch, node := some[r.Intn(len(some))], some[r.Intn(len(some))]
	e, i := Entry{epoch, node, style(r)}, r.Intn(b.m.Size()+4)-2
	switch r.Intn(16) {
	case 0, 1, 2, 3, 4:
		return fmt.Sprint("Put ", e), b.m.Put(e), b.o.put(e)
	case 5, 6, 7, 8, 9:
		return fmt.Sprint("Get ", epoch, node), got(b.m.Get(epoch, node)), got(b.o.get(epoch, node))
	case 10:
		return fmt.Sprint("Load ", i), loaded(b.m.Load(i)), loaded(b.o.load(i))
	case 11, 12:
		return fmt.Sprint("Cas ", i, e), b.m.Cas(i, e), b.o.cas(i, e)
	case 13:
		return "Used", b.m.Used(), b.o.used()
	case 14:
		return fmt.Sprint("Home ", epoch, node), b.m.Home(epoch, node), oHome(b.m.Size(), epoch, node)
	}
	if r.Intn(6) == 0 {
		b.m.Clear()
		b.o.clear()
	}
	return "Size", b.m.Size(), len(b.o.cells)
}

// style: a style by chance, that may be nil or empty.
func style(r *rand.Rand) []string {
	switch r.Intn(6) {
	case 0:
		return nil
	case 1:
		return []string{}
	}
	var out []string
	for range 1 + r.Intn(3) {
		out = append(out, []string{"", "a", "b", "#ff0000", "\xff\x00", "ä"}[r.Intn(6)])
	}
	return out
}

// some: a few numbers by chance, so that entries come to the same home, and to the same epoch and node.
func some(r *rand.Rand) []int {
	out := []int{ends()[r.Intn(len(ends()))]}
	for range 1 + r.Intn(8) {
		out = append(out, r.Intn(40)-20)
	}
	return slices.Clip(out)
}
