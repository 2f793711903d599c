package memo

import (
	"math/big"
	"slices"
)

// oTable is the second telling: a list of cells that one alone goes over, each place reckoned without bounds.
type oTable struct {
	cells []*Entry
}

func oNew(size int) *oTable { return &oTable{make([]*Entry, size)} }

// oHome: the first cell, by numbers that have no end.
func oHome(size, epoch, node int) int {
	if size == 0 {
		return 0
	}
	all := new(big.Int).Lsh(big.NewInt(1), 64)
	n := new(big.Int).Mul(oUnsigned(epoch, all), big.NewInt(31))
	n.Add(n, oUnsigned(node, all)).Mod(n, all)
	return int(n.Mod(n, big.NewInt(int64(size))).Int64())
}

func oUnsigned(n int, all *big.Int) *big.Int {
	b := big.NewInt(int64(n))
	if n < 0 {
		b.Add(b, all)
	}
	return b
}

// way: the places from an entry's home on: first those up to the end, and then those ahead of the home.
func (o *oTable) way(epoch, node int) []int {
	home := oHome(len(o.cells), epoch, node)
	var out []int
	for i := home; i < len(o.cells); i++ {
		out = append(out, i)
	}
	for i := 0; i < home; i++ {
		out = append(out, i)
	}
	return out
}

// search: where on the way the first entry of them is ahead of an empty cell, and where the first empty cell; -1: nowhere.
func (o *oTable) search(epoch, node int) (int, int) {
	way := o.way(epoch, node)
	hole := slices.IndexFunc(way, func(i int) bool { return o.cells[i] == nil })
	full := way
	if hole >= 0 {
		full = way[:hole]
	}
	at := slices.IndexFunc(full, func(i int) bool { return o.cells[i].Epoch == epoch && o.cells[i].Node == node })
	place := func(k int) int {
		if k < 0 {
			return -1
		}
		return way[k]
	}
	return place(at), place(hole)
}

func (o *oTable) get(epoch, node int) ([]string, bool) {
	at, _ := o.search(epoch, node)
	if at < 0 {
		return nil, false
	}
	return slices.Clone(o.cells[at].Style), true
}

func (o *oTable) put(e Entry) bool {
	at, hole := o.search(e.Epoch, e.Node)
	return at < 0 && hole >= 0 && o.cas(hole, e)
}

func (o *oTable) load(i int) (Entry, bool) {
	if i < 0 || i >= len(o.cells) || o.cells[i] == nil {
		return Entry{}, false
	}
	e := *o.cells[i]
	e.Style = slices.Clone(e.Style)
	return e, true
}

func (o *oTable) cas(i int, e Entry) bool {
	if i < 0 || i >= len(o.cells) || o.cells[i] != nil {
		return false
	}
	o.cells[i] = &Entry{e.Epoch, e.Node, slices.Clone(e.Style)}
	return true
}

func (o *oTable) used() int {
	n := 0
	for _, e := range o.cells {
		if e != nil {
			n++
		}
	}
	return n
}

func (o *oTable) clear() { clear(o.cells) }
