package epoch

import (
	"cmp"
	"container/heap"
	"slices"
)

// pile is a heap of what waits: the first one of Waiting's order lies on top.
type pile []Item

func (p pile) Len() int { return len(p) }

func (p pile) Less(i, j int) bool { return order(p[i], p[j]) < 0 }

func (p pile) Swap(i, j int) { p[i], p[j] = p[j], p[i] }

// Push is the heap's: it lays an Item at the end.
func (p *pile) Push(x any) {
	if i, ok := x.(Item); ok {
		*p = append(*p, i)
	}
}

// Pop is the heap's: it takes the last one away.
func (p *pile) Pop() any {
	last := len(*p) - 1
	i := (*p)[last]
	*p = (*p)[:last]
	if last == 0 {
		// Nothing waits: what once stood here needs no memory any more.
		*p = nil
	}
	return i
}

// take: the top one, which is in the pile no more.
func (p *pile) take() Item {
	top := (*p)[0]
	heap.Pop(p)
	return top
}

// sorted: puts the pile itself in order.
func (p pile) sorted() []Item {
	slices.SortFunc(p, order)
	return p
}

// order: by epochs, then by numbers. Two that are alike in both can't be told apart, and so nothing tells how they came.
func order(a, b Item) int {
	return cmp.Or(cmp.Compare(a.Epoch, b.Epoch), cmp.Compare(a.Id, b.Id))
}
