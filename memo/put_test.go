package memo

import (
	"fmt"
	"math/rand"
	"testing"
)

// P19.2

// TestExample: the one that the chapter tells.
func TestExample(t *testing.T) {
	m := New(2)
	is(t, "1 1", []any{m.Home(1, 1), m.Put(of(1, 1, "s"))}, []any{0, true})
	is(t, "cell 0", row(m), `1:1["s"] - `)
	is(t, "1 3", []any{m.Home(1, 3), m.Put(of(1, 3, "t"))}, []any{0, true})
	is(t, "cell 1", row(m), `1:1["s"] 1:3["t"] `)
	is(t, "1 2", m.Put(of(1, 2, "u")), false)
	is(t, "it stays", row(m), `1:1["s"] 1:3["t"] `)
	is(t, "Get 1 1", got(m.Get(1, 1)), got([]string{"s"}, true))
	is(t, "Get 1 3", got(m.Get(1, 3)), got([]string{"t"}, true))
	is(t, "Get 1 2", got(m.Get(1, 2)), got(nil, false))
	is(t, "Used and Size", []int{m.Used(), m.Size()}, []int{2, 2})
}

// TestPutAtHome: entries of different homes stand there.
func TestPutAtHome(t *testing.T) {
	m := New(7)
	for _, node := range []int{6, 0, 3} {
		is(t, fmt.Sprint("Put ", node), m.Put(of(0, node, fmt.Sprint(node))), true)
	}
	is(t, "all", row(m), `0:0["0"] - - 0:3["3"] - - 0:6["6"] `)
	is(t, "Used", m.Used(), 3)
	for node := range 7 {
		_, ok := m.Get(0, node)
		is(t, fmt.Sprint("Get ", node), ok, node%3 == 0)
	}
}

// TestPutOfOneHome: they stand behind one another, around the end of the table.
func TestPutOfOneHome(t *testing.T) {
	m := New(5)
	for i, all := range []string{
		`- - - 0:3["0"] - `,
		`- - - 0:3["0"] 0:8["1"] `,
		`0:13["2"] - - 0:3["0"] 0:8["1"] `,
		`0:13["2"] 0:18["3"] - 0:3["0"] 0:8["1"] `,
		`0:13["2"] 0:18["3"] 0:23["4"] 0:3["0"] 0:8["1"] `,
	} {
		is(t, fmt.Sprint("Put ", i), m.Put(of(0, 3+5*i, fmt.Sprint(i))), true)
		is(t, fmt.Sprint("all ", i), []any{row(m), m.Used(), m.Size()}, []any{all, i + 1, 5})
		for j := range 5 {
			want := got(nil, false)
			if j <= i {
				want = got([]string{fmt.Sprint(j)}, true)
			}
			is(t, fmt.Sprint("Get ", i, j), got(m.Get(0, 3+5*j)), want)
		}
	}
	is(t, "no room", m.Put(of(0, 28, "5")), false)
	is(t, "who found no room", got(m.Get(0, 28)), got(nil, false))
	is(t, "of another home", []any{m.Put(of(0, 1, "6")), got(m.Get(0, 1))}, []any{false, got(nil, false)})
	is(t, "Used and Size", []int{m.Used(), m.Size()}, []int{5, 5})
}

// TestPutBesideAnother: who finds the home taken by an entry of another home goes on.
func TestPutBesideAnother(t *testing.T) {
	m := New(4)
	m.Put(of(0, 1, "a"))
	m.Put(of(0, 5, "b"))
	m.Put(of(0, 2, "c"))
	is(t, "all", row(m), `- 0:1["a"] 0:5["b"] 0:2["c"] `)
	m.Put(of(0, 3, "d"))
	is(t, "around", row(m), `0:3["d"] 0:1["a"] 0:5["b"] 0:2["c"] `)
	is(t, "Get", got(m.Get(0, 3)), got([]string{"d"}, true))
}

// TestPutTwice: the first one stays.
func TestPutTwice(t *testing.T) {
	m := New(4)
	is(t, "Put", m.Put(of(1, 2, "a")), true)
	is(t, "again", m.Put(of(1, 2, "a")), false)
	is(t, "with another style", m.Put(of(1, 2, "b", "c")), false)
	is(t, "with none", m.Put(of(1, 2)), false)
	is(t, "Get", got(m.Get(1, 2)), got([]string{"a"}, true))
	is(t, "Used and Size", []int{m.Used(), m.Size()}, []int{1, 4})
}

// TestPutTwiceFarAway: an entry behind others of its home counts too, and one around the end.
func TestPutTwiceFarAway(t *testing.T) {
	m := New(4)
	for i := range 3 {
		m.Put(of(0, 3+4*i, fmt.Sprint(i)))
	}
	before := row(m)
	for i := range 3 {
		is(t, fmt.Sprint("again ", i), m.Put(of(0, 3+4*i, "x")), false)
	}
	is(t, "it stays", row(m), before)
}

// TestPutTwiceInAFullTable: both are false, and nothing has changed.
func TestPutTwiceInAFullTable(t *testing.T) {
	m := New(3)
	for node := range 3 {
		m.Put(of(0, node, fmt.Sprint(node)))
	}
	before := row(m)
	for node := range 6 {
		is(t, fmt.Sprint("Put ", node), m.Put(of(0, node, "x")), false)
	}
	is(t, "it stays", row(m), before)
}

// TestEpochAndNode: both must be the same; epochs and nodes of one home, and of one sum, are told apart.
func TestEpochAndNode(t *testing.T) {
	m := New(8)
	for _, e := range []Entry{of(1, 40, "a"), of(2, 9, "b"), of(3, -22, "c"), of(1, 48, "d")} {
		is(t, fmt.Sprint("Home ", e), m.Home(e.Epoch, e.Node), 7)
		is(t, fmt.Sprint("Put ", e), m.Put(e), true)
	}
	is(t, "Get", []any{got(m.Get(1, 40)), got(m.Get(2, 9)), got(m.Get(3, -22)), got(m.Get(1, 48))},
		[]any{got([]string{"a"}, true), got([]string{"b"}, true), got([]string{"c"}, true), got([]string{"d"}, true)})
	for _, e := range []Entry{of(2, 40), of(1, 9), of(40, 1), of(9, 2), of(3, 9), of(2, -22), of(0, 71), of(-1, 102)} {
		is(t, fmt.Sprint("Get ", e), got(m.Get(e.Epoch, e.Node)), got(nil, false))
	}
}

// TestZeroEntry: epoch 0 and node 0 are such as others: an empty cell has none of them.
func TestZeroEntry(t *testing.T) {
	m := New(3)
	is(t, "nobody put it", got(m.Get(0, 0)), got(nil, false))
	is(t, "Put", m.Put(Entry{}), true)
	is(t, "there", []any{got(m.Get(0, 0)), loaded(m.Load(0)), m.Used()}, []any{got(nil, true), loaded(Entry{}, true), 1})
	is(t, "again", m.Put(Entry{}), false)
}

// TestNoStyle: nil and empty styles are kept as others are.
func TestNoStyle(t *testing.T) {
	for _, none := range [][]string{nil, {}, make([]string, 0, 8)} {
		m := New(2)
		is(t, "Put", []bool{m.Put(Entry{1, 1, none}), m.Put(Entry{1, 1, none})}, []bool{true, false})
		style, ok := m.Get(1, 1)
		is(t, "Get", []any{len(style), ok}, []any{0, true})
		e, ok := m.Load(0)
		is(t, "Load", []any{e.Epoch, e.Node, len(e.Style), ok}, []any{1, 1, 0, true})
		is(t, "Cas", m.Cas(1, Entry{1, 3, none}), true)
		style, ok = m.Get(1, 3)
		is(t, "Get behind Cas", []any{len(style), ok}, []any{0, true})
	}
}

// TestHole: a search ends at an empty cell, even if what is looked for stands behind it.
func TestHole(t *testing.T) {
	m := New(5)
	m.Cas(1, of(0, 1, "a"))
	m.Cas(3, of(0, 6, "b"))
	is(t, "behind the hole", got(m.Get(0, 6)), got(nil, false))
	is(t, "Put into the hole", m.Put(of(0, 6, "c")), true)
	is(t, "all", row(m), `- 0:1["a"] 0:6["c"] 0:6["b"] - `)
	is(t, "Get", got(m.Get(0, 6)), got([]string{"c"}, true))
	is(t, "Put again", m.Put(of(0, 6, "d")), false)
	m.Cas(4, of(0, 11, "e"))
	is(t, "no hole any more", got(m.Get(0, 11)), got([]string{"e"}, true))
	is(t, "ahead of its home", got(m.Get(0, 2)), got(nil, false))
	is(t, "Used", m.Used(), 4)
}

// TestHoleAtHome: an entry that stands elsewhere is not found from an empty home.
func TestHoleAtHome(t *testing.T) {
	m := New(4)
	m.Cas(3, of(0, 2, "a"))
	is(t, "Get", got(m.Get(0, 2)), got(nil, false))
	m.Cas(1, of(0, 5, "b"))
	is(t, "Put", m.Put(of(0, 2, "c")), true)
	is(t, "all", row(m), `- 0:5["b"] 0:2["c"] 0:2["a"] `)
}

// TestTwoOfOne: of two of one epoch and node the first from their home on is told, wherever the table begins.
func TestTwoOfOne(t *testing.T) {
	m := New(3)
	m.Cas(0, of(0, 2, "a"))
	m.Cas(1, of(0, 2, "b"))
	is(t, "from an empty home", got(m.Get(0, 2)), got(nil, false))
	m.Cas(2, of(0, 5, "c"))
	is(t, "around the end", got(m.Get(0, 2)), got([]string{"a"}, true))
	m = New(3)
	m.Cas(0, of(0, 2, "a"))
	m.Cas(2, of(0, 2, "b"))
	is(t, "the home ahead of the first cell", got(m.Get(0, 2)), got([]string{"b"}, true))
	is(t, "Put", m.Put(of(0, 2, "c")), false)
	is(t, "both count", m.Used(), 2)
}

// TestWholeRound: in a full table all cells are looked at, the last one too.
func TestWholeRound(t *testing.T) {
	for _, size := range sizes() {
		for home := range min(size, 40) {
			m := New(size)
			last := (home + size - 1) % size
			for i := range size {
				if i != last {
					m.Cas(i, of(9, -1-i))
				}
			}
			is(t, fmt.Sprint("nowhere ", size, home), got(m.Get(0, home)), got(nil, false))
			is(t, fmt.Sprint("the last one is free ", size, home), m.Put(of(0, home, "x")), true)
			is(t, fmt.Sprint("Get ", size, home), got(m.Get(0, home)), got([]string{"x"}, true))
			is(t, fmt.Sprint("full ", size, home), []any{m.Put(of(0, home, "y")), m.Put(of(1, home, "y")), got(m.Get(1, home)), m.Used()}, []any{false, false, got(nil, false), size})
			e, ok := m.Load(last)
			is(t, fmt.Sprint("Load ", size, home), loaded(e, ok), loaded(of(0, home, "x"), true))
		}
	}
}

func TestClear(t *testing.T) {
	m := New(4)
	m.Clear()
	is(t, "of an empty one", []any{row(m), m.Used(), m.Size()}, []any{"- - - - ", 0, 4})
	for i := range 6 {
		m.Put(of(0, i, fmt.Sprint(i)))
	}
	is(t, "full", []int{m.Used(), m.Size()}, []int{4, 4})
	m.Clear()
	is(t, "cleared", []any{row(m), m.Used(), m.Size(), got(m.Get(0, 1))}, []any{"- - - - ", 0, 4, got(nil, false)})
	is(t, "what found no room", []any{m.Put(of(0, 5, "x")), m.Put(of(0, 1, "y")), m.Cas(0, of(7, 7, "z"))}, []any{true, true, true})
	is(t, "behind it", []any{row(m), m.Used()}, []any{`7:7["z"] 0:5["x"] 0:1["y"] - `, 3})
	m.Clear()
	m.Clear()
	is(t, "twice", []any{row(m), m.Used(), m.Size()}, []any{"- - - - ", 0, 4})
}

// TestUsed: it counts the cells that are not empty, wherever they are.
func TestUsed(t *testing.T) {
	for _, size := range sizes() {
		m := New(size)
		for n, i := range rand.New(rand.NewSource(int64(size))).Perm(size) {
			is(t, fmt.Sprint("Used ", size, n), m.Used(), n)
			m.Cas(i, Entry{})
		}
		is(t, fmt.Sprint("full ", size), []int{m.Used(), m.Size()}, []int{size, size})
	}
}

// TestByChance: all calls, in any order, answer what the second telling does.
func TestByChance(t *testing.T) {
	for seed := range int64(4000) {
		r := rand.New(rand.NewSource(seed))
		b, some := newBoth(r.Intn(9)), some(r)
		for n := range 60 {
			what, a, o := b.step(r, some)
			is(t, fmt.Sprint(seed, " ", n, " ", what), a, o)
		}
	}
}

// TestBigByChance: tables of more cells, with numbers from all of an int.
func TestBigByChance(t *testing.T) {
	for seed := range int64(60) {
		r := rand.New(rand.NewSource(seed))
		b, some := newBoth(sizes()[r.Intn(len(sizes()))]), ends()
		for range 40 {
			some = append(some, int(r.Uint64()))
		}
		for n := range 3000 {
			what, a, o := b.step(r, some)
			is(t, fmt.Sprint(seed, " ", n, " ", what), a, o)
		}
	}
}
