package dom

import (
	"fmt"
	"math"
	"testing"

	"gouache/api"
)

// chain: elements below one, each in the last one, and the number of the lowest one.
func (d *Doc) chain(t *testing.T, below, many int) (*Doc, int) {
	t.Helper()
	for range many {
		below, d = d.Next(), d.insert(t, below, 0, "c")
	}
	return d, below
}

func TestDeepInsert(t *testing.T) {
	d, low := made(t, "r").chain(t, 1, 511)
	is(t, "Len, the lowest", []int{d.Len(), low}, "[512 512]")
	n, id, err := d.Insert(low, 0, "x")
	refused(t, "one more", d, n, err, api.ErrLimit)
	is(t, "its number", id, 0)
	n, _, err = d.Insert(low, 0, "X")
	refused(t, "one more, of a tag that is none", d, n, err, api.ErrName)
	for _, index := range []int{-1, 1, math.MaxInt, math.MinInt} {
		n, _, err = d.Insert(low, index, "X")
		refused(t, "one more, at no place", d, n, err, api.ErrIndex)
	}
	n, _, err = d.Insert(513, -1, "X")
	refused(t, "of none", d, n, err, api.ErrNoNode)
	for i := range 3 {
		d = d.insert(t, low-1, i, "x")
	}
	is(t, "beside the lowest", kids(d, low-1), "[513 514 515 512]")
	for id := 513; id <= 515; id++ {
		n, _, err = d.Insert(id, 0, "x")
		refused(t, "below one beside the lowest", d, n, err, api.ErrLimit)
	}
	is(t, "below one above it", kids(d.insert(t, 510, 1, "x"), 510), "[511 516]")
	up := d.remove(t, low).insert(t, low-1, 0, "y")
	is(t, "in the place of one that is gone", kids(up, low-1), "[516 513 514 515]")
}

// TestDeepMove: an element of each height to each depth around the limit.
func TestDeepMove(t *testing.T) {
	for height := 1; height <= 4; height++ {
		d, low := made(t, "r").chain(t, 1, 511)
		d, bottom := d.chain(t, 1, height)
		top := bottom - height + 1
		// Its first Kid has nothing in it, so the depth that counts is not the first one's.
		if height > 1 {
			d = d.insert(t, top, 0, "x")
		}
		for depth := 505; depth <= 512; depth++ {
			parent := low - 512 + depth
			what := fmt.Sprintf("height %d, to depth %d", height, depth+1)
			n, err := d.Move(top, parent, 0)
			if depth+height > 512 {
				refused(t, what, d, n, err, api.ErrLimit)
				n, err = d.Move(top, parent, -1)
				refused(t, what+", at no place", d, n, err, api.ErrIndex)
				n, err = d.Move(top, parent, 2)
				refused(t, what+", at no place", d, n, err, api.ErrIndex)
				continue
			}
			n = well(t, d, n, err)
			is(t, what, kidsOf(n, parent)[0], top)
			_, _, err = n.Insert(bottom, 0, "x")
			is(t, what+", and one more below", err == api.ErrLimit, depth+height == 512)
			is(t, what+", and back", show(n.move(t, top, 1, 0), 1), show(d, 1))
		}
	}
}

// TestDeepWithin: what is as deep as may be moves beside its place and up; below a deeper one it does not.
func TestDeepWithin(t *testing.T) {
	d, low := made(t, "r").chain(t, 1, 511)
	d = d.insert(t, low-1, 1, "x").insert(t, 1, 1, "y")
	is(t, "beside", kids(d.move(t, low, low-1, 1), low-1), "[513 512]")
	is(t, "a whole chain beside", kids(d.move(t, 2, 1, 1), 1), "[514 2]")
	n, err := d.Move(2, 514, 0)
	refused(t, "a whole chain, one deeper", d, n, err, api.ErrLimit)
	is(t, "the chain but one", kids(d.move(t, 3, 514, 0), 514), "[3]")
	n, err = d.Move(low, 513, 0)
	refused(t, "below the one beside", d, n, err, api.ErrLimit)
	n, err = d.Move(2, low, 0)
	refused(t, "below itself", d, n, err, api.ErrHierarchy)
	n, err = d.Move(1, low, 0)
	refused(t, "the root", d, n, err, api.ErrHierarchy)
	gone := d.remove(t, 2)
	is(t, "the chain is gone", []any{show(gone, 1), gone.Len(), gone.Next()}, "[r1(y514()) 2 515]")
	is(t, "the old one", []any{d.Len(), kids(d, low-1)}, "[514 [512 513]]")
}

// TestAllNumbers: each number up to MaxNodes - 1 is used, by calls alone, sixteen in each element; behind them none is left, even where elements are gone.
func TestAllNumbers(t *testing.T) {
	d := made(t, "r")
	for d.Next() < api.MaxNodes {
		next, id, err := d.Insert(1+(d.Next()-2)/16, 0, "a")
		if err != api.OK || id != d.Next() || next.Next() != id+1 {
			t.Fatalf("number %d: %v", id, err)
		}
		d = next
	}
	const last = api.MaxNodes - 1
	full(t, d)
	is(t, "Len", d.Len(), last)
	is(t, "the last one", []string{show(d, last), kids(d, (last+14)/16)}, "[a1048575() [1048575 1048574 1048573 1048572 1048571 1048570 1048569 1048568 1048567 1048566 1048565 1048564 1048563 1048562]]")
	less := d.remove(t, last)
	full(t, less)
	full(t, less.remove(t, 40000))
	m := d.move(t, last, 1, 0).set(t, last, "id", "x").move(t, 40000, last, 0)
	is(t, "other changes", []int{m.Len(), m.Next(), kidsOf(m, 1)[0], kidsOf(m, last)[0]}, []int{last, last + 1, last, 40000})
	is(t, "it is gone, with seventeen below it", m.remove(t, last).Len(), last-18)
}

// full: no number is left.
func full(t *testing.T, d *Doc) {
	t.Helper()
	is(t, "Next", d.Next(), 1<<20)
	n, id, err := d.Insert(1, 0, "x")
	refused(t, "Insert", d, n, err, api.ErrLimit)
	is(t, "its number", id, 0)
	n, _, err = d.Insert(1, 0, "X")
	refused(t, "Insert of a tag that is none", d, n, err, api.ErrName)
	n, _, err = d.Insert(1, 17, "X")
	refused(t, "Insert at no place", d, n, err, api.ErrIndex)
	n, _, err = d.Insert(1<<20, 17, "X")
	refused(t, "Insert below none", d, n, err, api.ErrNoNode)
}

// TestMany: a tree of many elements, sixteen in each, and most of them gone at once.
func TestMany(t *testing.T) {
	const many = 100000
	d := made(t, "r")
	for i := 2; i <= many; i++ {
		d = d.insert(t, 1+(i-2)/16, (i-2)%16/2, "k")
	}
	is(t, "Len, Next", []int{d.Len(), d.Next()}, []int{many, many + 1})
	eachOnce(t, "all", d)
	r := d.remove(t, 2)
	eachOnce(t, "without one part", r)
	m := d.move(t, 2, 17, 0)
	eachOnce(t, "one part below another", m)
	is(t, "Len", []bool{r.Len() < many, m.Len() == many, d.Len() == many}, "[true true true]")
	is(t, "moved first", m.move(t, 2, 1, slotOf(d, 1, 2)).Len(), many)
	wide := made(t, "r")
	for i := range 3000 {
		wide = wide.insert(t, 1, i/2, "k")
	}
	eachOnce(t, "wide", wide)
}

// slotOf: at which index an element is.
func slotOf(d *Doc, parent, id int) int {
	for i, k := range kidsOf(d, parent) {
		if k == id {
			return i
		}
	}
	return -1
}
