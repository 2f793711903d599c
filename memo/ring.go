package memo

import (
	"iter"
	"sync/atomic"
)

// cell holds an entry that nobody changes; nil while it is empty.
type cell struct {
	held atomic.Pointer[Entry]
}

// ring is the cells from one Clear to the next. Within it a cell that is not empty stays as it is, and so nobody has to try the same cell twice.
type ring []cell

func empty(size int) *ring {
	r := make(ring, size)
	return &r
}

func (r ring) has(i int) bool { return 0 <= i && i < len(r) }

func (r ring) home(epoch, node int) int {
	if len(r) == 0 {
		return 0
	}
	return int((uint64(epoch)*31 + uint64(node)) % uint64(len(r)))
}

// around: each cell once, from one on.
func (r ring) around(from int) iter.Seq[*cell] {
	return func(yield func(*cell) bool) {
		for i := range r {
			if !yield(&r[(from+i)%len(r)]) {
				return
			}
		}
	}
}

// fill: puts an entry there, if the cell is empty.
func (c *cell) fill(e Entry) bool {
	if c.held.Load() != nil {
		return false
	}
	kept := e.copied()
	return c.held.CompareAndSwap(nil, &kept)
}

func (e *Entry) is(epoch, node int) bool { return e.Epoch == epoch && e.Node == node }

// copied: the same entry, with a list of its own.
func (e *Entry) copied() Entry {
	return Entry{Epoch: e.Epoch, Node: e.Node, Style: append([]string(nil), e.Style...)}
}
