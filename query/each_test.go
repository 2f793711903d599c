package query

import (
	"fmt"
	"iter"
	"slices"
	"testing"

	"gouache/api"
	"gouache/dom"
)

// first: the first so many that an iterator tells; it is left at the last of them.
func first(all iter.Seq[int], most int) []int {
	var l []int
	for id := range all {
		l = append(l, id)
		if len(l) == most {
			break
		}
	}
	return l
}

// TestEachIsLeft: at each place, and told to its end again behind that.
func TestEachIsLeft(t *testing.T) {
	d := some(t)
	for s, want := range map[string][]int{
		"*":              {7, 2, 5, 6, 8, 10, 3, 4, 9},
		"b, c":           {2, 5, 6, 10, 3, 4},
		"b *, e ~ *":     {2, 5, 6, 8, 10, 3, 4},
		":not(.x) > *":   {7, 2, 8, 3, 4, 9},
		"d":              {8},
		"q":              nil,
		".x > b > d, #i": {7, 8, 3},
	} {
		all := Each(d, 1, sel(t, s))
		is(t, s, slices.Collect(all), want)
		for most := 1; most <= len(want); most++ {
			is(t, fmt.Sprintf("%s, the first %d", s, most), first(all, most), want[:most])
			is(t, s+" gone over again", slices.Collect(all), want)
		}
		for most := range want {
			count := 0
			all(func(id int) bool {
				is(t, s+" one by one", id, want[count])
				count++
				return count <= most
			})
			is(t, s+" told till false is answered", count, most+1)
		}
	}
}

// TestEachNested: within itself, within another one, and two by turns.
func TestEachNested(t *testing.T) {
	d := some(t)
	all, count := Each(d, 1, sel(t, "*")), 0
	for i := range all {
		for k := range all {
			if k == i {
				break
			}
			count++
		}
	}
	is(t, "pairs", count, 9*8/2)
	var below []string
	for i := range all {
		for k := range Each(d, i, sel(t, ":empty")) {
			below = append(below, fmt.Sprint(i, "-", k))
		}
	}
	is(t, "of each below it", below, "[2-5 2-8 2-10 6-8 4-9]")
	a, stopA := iter.Pull(all)
	b, stopB := iter.Pull(all)
	defer stopA()
	defer stopB()
	for range 5 {
		x, _ := a()
		y, _ := b()
		is(t, "by turns", x, y)
	}
	x, _ := a()
	x, _ = a()
	y, _ := b()
	is(t, "one is ahead", []int{x, y}, "[3 10]")
}

// TestEachLeavesByPanic: who panics, or goes away otherwise, within a range leaves the iterator as it was.
func TestEachLeavesByPanic(t *testing.T) {
	all := Each(some(t), 1, sel(t, "*"))
	func() {
		defer func() { recover() }()
		for id := range all {
			if id == 6 {
				panic(id)
			}
		}
	}()
	is(t, "gone over again", slices.Collect(all), someOrder[1:])
	is(t, "from within", func() int {
		for id := range all {
			if id == 8 {
				return id
			}
		}
		return 0
	}(), 8)
	is(t, "once more", slices.Collect(all), someOrder[1:])
}

// TestEachStaysInItsTree: others made of a Doc, and another Doc written over it, change nothing.
func TestEachStaysInItsTree(t *testing.T) {
	const s, want = "b *, e ~ *", "[2 5 6 8 10 3 4]"
	p := page{t, some(t)}
	all := Each(p.doc, 1, sel(t, s))
	var l []int
	for id := range all {
		l = append(l, id)
		p = p.under(id, "b").set(7, "id", "z")
		p = p.move(4, 1, 0)
	}
	is(t, "while others are made", l, want)
	is(t, "behind them", slices.Collect(all), want)

	b := some(t)
	all = Each(b, 1, sel(t, s))
	*b = *begin(t, "e").under(1, "e").under(1, "b").doc
	is(t, "where the Doc is overwritten", slices.Collect(all), want)
	is(t, "and the new one", All(b, 1, sel(t, s)), "[3]")
	*b = dom.Doc{}
	is(t, "where it is one that no call made", slices.Collect(all), want)

	c := some(t)
	all = Each(c, 1, sel(t, s))
	l = nil
	for id := range all {
		l = append(l, id)
		*c = dom.Doc{}
	}
	is(t, "where it is overwritten on the way", l, want)

	var u dom.Doc
	all = Each(&u, 1, sel(t, s))
	u = *some(t)
	is(t, "where one that no call made is", len(slices.Collect(all)), 0)
}

// spoilt: writes over all that is in a list, the Lists within and the spare room too.
func spoilt(l []api.Complex) {
	l = l[:cap(l)]
	for i, c := range l {
		for _, simples := range c.Parts[:cap(c.Parts)] {
			simples = simples[:cap(simples)]
			for n := range simples {
				spoilt(simples[n].List)
				simples[n] = tag("spoilt")
			}
		}
		clear(c.Parts[:cap(c.Parts)])
		clear(c.Combs[:cap(c.Combs)])
		l[i] = part(tag("*"))
	}
}

// TestEachKeepsItsList: who writes over a list, or over what is in it, changes nothing that is told.
func TestEachKeepsItsList(t *testing.T) {
	d := some(t)
	const s, want = "b > :not(c, b > :is(d)), :is(:where(e) ~ c) > *, #i + b", "[2 6 9]"
	for what, change := range map[string]func(l []api.Complex){
		"a name":              func(l []api.Complex) { l[0].Parts[0][0].Name = "q" },
		"a name behind":       func(l []api.Complex) { l[2].Parts[1][0].Name = "q" },
		"a Kind":              func(l []api.Complex) { l[2].Parts[0][0].Kind = api.Class },
		"a simple one":        func(l []api.Complex) { l[1].Parts[1][0] = class("q") },
		"a comb":              func(l []api.Complex) { l[2].Combs[0] = api.Child },
		"a comb within":       func(l []api.Complex) { l[1].Parts[0][0].List[0].Combs[0] = api.Child },
		"a part":              func(l []api.Complex) { l[1].Parts[1] = []api.Simple{tag("q")} },
		"a name within":       func(l []api.Complex) { l[0].Parts[1][0].List[0].Parts[0][0].Name = "b" },
		"a name within it":    func(l []api.Complex) { l[1].Parts[0][0].List[0].Parts[0][0].List[0].Parts[0][0].Name = "q" },
		"one of a list":       func(l []api.Complex) { l[0] = part(tag("*")) },
		"one of a List":       func(l []api.Complex) { l[0].Parts[1][0].List[1] = part(tag("*")) },
		"a List":              func(l []api.Complex) { l[0].Parts[1][0].List = nil },
		"all, and what is in": spoilt,
		"all":                 func(l []api.Complex) { clear(l) },
	} {
		l := sel(t, s)
		all := Each(d, 1, l)
		is(t, what+", at first", slices.Collect(all), want)
		change(l)
		is(t, what, slices.Collect(all), want)
		if got := fmt.Sprint(All(d, 1, l)); got == want {
			t.Errorf("%s: that changes nothing", what)
		}
	}
	l := sel(t, s)
	var told []int
	for id := range Each(d, 1, l) {
		told = append(told, id)
		spoilt(l)
	}
	is(t, "on the way", told, want)
}

// TestEachByChance: lists of all sorts, written over behind Each, and each Each left at each place.
func TestEachByChance(t *testing.T) {
	for seed := range int64(300) {
		m := newMaker(seed)
		d := m.tree(t, 60, 14)
		l, same := newMaker(seed+9000).list(3, 3), newMaker(seed+9000).list(3, 3)
		was := *d
		id := m.id(d)
		want := oAll(d, id, same)
		all := Each(d, id, l)
		spoilt(l)
		*d = dom.Doc{}
		for most := range want {
			is(t, "left", first(all, most+1), want[:most+1])
		}
		is(t, fmt.Sprint("seed ", seed), slices.Collect(all), want)
		is(t, "the Doc again", All(&was, id, same), want)
	}
}
