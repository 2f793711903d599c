package epoch

import (
	"fmt"
	"slices"

	"gouache/api"
)

// oEpochs is the second telling: plain lists, for one alone. What waits stands as it came, and is put in order when it is asked for.
type oEpochs struct {
	now   int
	slots []int
	came  []Item
}

func oNew(pins int) *oEpochs { return &oEpochs{now: 1, slots: make([]int, pins)} }

func (o *oEpochs) copied() *oEpochs {
	return &oEpochs{o.now, slices.Clone(o.slots), slices.Clone(o.came)}
}

func (o *oEpochs) publish() int {
	o.now++
	return o.now
}

func (o *oEpochs) pin() (int, api.Errno) {
	slot := slices.Index(o.slots, 0)
	if slot < 0 {
		return 0, api.ErrBusy
	}
	o.slots[slot] = o.now
	return slot, api.OK
}

func (o *oEpochs) pinned(slot int) int {
	if slot < 0 || slot >= len(o.slots) {
		return 0
	}
	return o.slots[slot]
}

func (o *oEpochs) unpin(slot int) api.Errno {
	if o.pinned(slot) == 0 {
		return api.ErrIndex
	}
	o.slots[slot] = 0
	return api.OK
}

// heldOnes: what is held, from the least on.
func (o *oEpochs) heldOnes() []int {
	held := slices.DeleteFunc(slices.Clone(o.slots), func(n int) bool { return n == 0 })
	slices.Sort(held)
	return held
}

func (o *oEpochs) min() int {
	return append(o.heldOnes(), o.now)[0]
}

func (o *oEpochs) retire(id int) api.Errno {
	o.came = append(o.came, Item{id, o.now})
	return api.OK
}

func (o *oEpochs) waiting() []Item {
	out := slices.Clone(o.came)
	slices.SortStableFunc(out, func(a, b Item) int {
		switch {
		case a.Epoch < b.Epoch, a.Epoch == b.Epoch && a.Id < b.Id:
			return -1
		case a == b:
			return 0
		}
		return 1
	})
	return out
}

// reclaim: each slot that is held is asked about each that waits.
func (o *oEpochs) reclaim() []int {
	seen := func(i Item) bool {
		return slices.ContainsFunc(o.heldOnes(), func(held int) bool { return held <= i.Epoch })
	}
	var ids []int
	for _, i := range o.waiting() {
		if !seen(i) {
			ids = append(ids, i.Id)
		}
	}
	o.came = slices.DeleteFunc(o.came, func(i Item) bool { return !seen(i) })
	return ids
}

func (o *oEpochs) told() string {
	var slots []int
	for slot := -2; slot < api.MaxPins+2; slot++ {
		slots = append(slots, o.pinned(slot))
	}
	return fmt.Sprint(o.now, slots, o.min(), o.waiting())
}
