package cascade

import (
	"container/heap"
)

// row is an entry with its place in the list that it comes from: a heap alone would forget which of two as good was ahead.
type row struct {
	entry Entry
	place int
}

// pile is a heap of entries, the one that wins on top.
type pile []row

func (p pile) Len() int { return len(p) }

// Less: is the first of the two nearer to the top?
func (p pile) Less(i, j int) bool {
	a, b := p[i], p[j]
	switch {
	case Less(a.entry, b.entry):
		return false
	case Less(b.entry, a.entry):
		return true
	}
	return a.place > b.place
}

func (p pile) Swap(i, j int) { p[i], p[j] = p[j], p[i] }

// Push: container/heap hands over anything, so what is no row is left out.
func (p *pile) Push(x any) {
	if r, ok := x.(row); ok {
		*p = append(*p, r)
	}
}

func (p *pile) Pop() any {
	last := len(*p) - 1
	r := (*p)[last]
	*p = (*p)[:last]
	return r
}

// put: one more entry. All are put ahead of the first that is taken, so that how many there are is a place that no other has.
func (p *pile) put(e Entry) {
	heap.Push(p, row{e, len(*p)})
}

// take: the entry that wins over the rest.
func (p *pile) take() Entry {
	r, _ := heap.Pop(p).(row)
	return r.entry
}

// each: all entries are taken, the one that wins first.
func (p *pile) each(yield func(Entry) bool) {
	for p.Len() > 0 && yield(p.take()) {
	}
}

// feed hands all of l to put.
func feed(l []Entry, put func(Entry)) {
	for _, e := range l {
		put(e)
	}
}

// feedNamed hands those of l with a name to put.
func feedNamed(l []Entry, name string, put func(Entry)) {
	for _, e := range l {
		if e.Name == name {
			put(e)
		}
	}
}
