package query

import (
	"fmt"
	"slices"
	"testing"

	"gouache/api"
	"gouache/bloom"
	"gouache/bucket"
	"gouache/dom"
	"gouache/match"
	"gouache/sheet"
	"gouache/walk"
)

// tally: what came of a rule that was asked of an element: left out by the bucket, by the filter of all above, by neither though not meant, meant.
type tally struct{ bucket, filter, vain, meant int }

// follows: nothing that is left out is meant, and Matched tells the same with and without what leaves out.
func (n *tally) follows(t *testing.T, what string, d *dom.Doc, l []sheet.Placed) {
	t.Helper()
	matches(t, what, d, l)
	x := bucket.Make(l)
	for id := range d.Next() + 1 {
		above, picked := bloom.Of(d, id), x.Pick(d, id)
		for place, p := range l {
			means := match.List(d, id, p.Rule.Selector)
			skipped := !slices.ContainsFunc(p.Rule.Selector, func(c api.Complex) bool { return !bloom.Skip(above, c) })
			switch {
			case means && skipped || means && !slices.Contains(picked, place):
				t.Fatalf("%s: rule %d means %d, and is left out\n%+v", what, place, id, p)
			case means:
				n.meant++
			case skipped:
				n.filter++
			case !slices.Contains(picked, place):
				n.bucket++
			default:
				n.vain++
			}
		}
	}
}

// told: each came often enough to tell something.
func (n tally) told(t *testing.T, least int) {
	t.Helper()
	if min(n.bucket, n.filter, n.vain, n.meant) < least {
		t.Errorf("%+v: that tells little", n)
	}
}

// TestFollowsByChance: lists and rules of all sorts, of trees behind calls of all sorts; older trees are asked again.
func TestFollowsByChance(t *testing.T) {
	var n tally
	told := 0
	for seed := range int64(60) {
		m := newMaker(seed)
		d := m.tree(t, 50, 14)
		l := m.placed(20)
		var old []*dom.Doc
		for i := range 20 {
			d = m.step(d, 14)
			what := fmt.Sprintf("seed %d, %d", seed, i)
			told += agree(t, what, d, m.list(2, 5))
			n.follows(t, what, d, l)
			old = append(old, d)
		}
		for _, d := range old {
			told += agree(t, "again", d, m.list(1, 3))
			matches(t, "again", d, l)
		}
	}
	n.told(t, 5000)
	if told < 10000 {
		t.Errorf("%d told: that tells little", told)
	}
}

// TestFollowsInBigTrees: many elements and many rules.
func TestFollowsInBigTrees(t *testing.T) {
	var n tally
	for seed := range int64(4) {
		m := newMaker(700 + seed)
		d := m.tree(t, 400, 100)
		n.follows(t, fmt.Sprint("seed ", seed), d, m.placed(300))
		for range 5 {
			agree(t, fmt.Sprint("seed ", seed), d, m.list(2, 5))
		}
	}
	n.told(t, 500)
}

// allTrees: all trees of so many elements that Inserts make, whatever their tags: each element comes behind the last one or behind one above that, so that its number is its place in walk's order.
func allTrees(t *testing.T, many int, tags []string) []*dom.Doc {
	t.Helper()
	var out []*dom.Doc
	for _, name := range tags {
		out = append(out, begin(t, name).doc)
	}
	for last := 1; last < many; last++ {
		var next []*dom.Doc
		for _, d := range out {
			for _, parent := range append([]int{last}, walk.Up(d, last)...) {
				for _, name := range tags {
					next = append(next, page{t, d}.under(parent, name).doc)
				}
			}
		}
		out = next
	}
	return out
}

// TestFollowsInAll: all selectors of up to three Parts of a, b or anybody, by each comb, in all trees of four elements tagged in all ways; by All, First, Each and Closest, and as rules by Matched.
func TestFollowsInAll(t *testing.T) {
	names := [][]api.Simple{{tag("a")}, {tag("b")}, nil}
	now := []api.Complex{}
	for _, p := range names {
		now = append(now, api.Complex{Parts: [][]api.Simple{p}})
	}
	all := slices.Clone(now)
	for range 2 {
		var next []api.Complex
		for _, c := range now {
			for comb := api.Descendant; comb <= api.Later; comb++ {
				for _, p := range names {
					next = append(next, api.Complex{Parts: append(slices.Clone(c.Parts), p), Combs: append(slices.Clone(c.Combs), comb)})
				}
			}
		}
		all, now = append(all, next...), next
	}
	is(t, "selectors", len(all), 3+3*12+3*12*12)
	var lists [][]api.Complex
	for i, c := range all {
		lists = append(lists, []api.Complex{c})
		if i%16 == 0 {
			lists = append(lists, []api.Complex{c, all[len(all)-1-i/2], all[i/3]})
		}
	}
	l := placed(lists...)
	trees := allTrees(t, 4, []string{"a", "b"})
	is(t, "trees", len(trees), 5*16)
	for i, d := range trees {
		what := fmt.Sprint("tree ", i)
		matches(t, what, d, l)
		for _, one := range lists {
			agree(t, what, d, one)
		}
	}
}

// TestFilters: what the walk's stack tells of an element is bloom's Of it, from whichever element the walk goes on.
func TestFilters(t *testing.T) {
	check := func(what string, d *dom.Doc, id int) {
		t.Helper()
		above := filters(d, id)
		for one := range walk.Under(d, id) {
			if got, want := above(one), bloom.Of(d, one); got != want {
				t.Fatalf("%s: from %d on, of %d: %v, want %v", what, id, one, got, want)
			}
		}
	}
	for i, d := range allTrees(t, 6, []string{"a"}) {
		p := page{t, d}
		for id := range d.Next() {
			if id > 0 {
				p = p.set(id, "class", fmt.Sprint("k", id)).set(id, "id", fmt.Sprint("i", id))
			}
		}
		for id := range p.doc.Next() + 1 {
			check(fmt.Sprint("tree ", i), p.doc, id)
		}
	}
	for seed := range int64(200) {
		m := newMaker(seed)
		d := m.tree(t, 100, 30)
		for id := range d.Next() + 1 {
			check(fmt.Sprint("seed ", seed), d, id)
		}
	}
	check("chain", chain(t), 1)
	check("chain", chain(t), 300)
	check("broad", broad(t, 100), 1)
}

// TestMeansSkips: what the filter leaves out is not asked: below a filter of nothing, a list that needs something above means nobody.
func TestMeansSkips(t *testing.T) {
	d := some(t)
	l := sel(t, "a b, q c")
	is(t, "with what is above", []bool{means(d, 2, l, bloom.Of(d, 2)), means(d, 5, l, bloom.Of(d, 5))}, "[true false]")
	is(t, "with nothing above", means(d, 2, l, bloom.Filter{}), false)
	is(t, "one that needs nothing", means(d, 2, append(l, sel(t, "b")...), bloom.Filter{}), true)
	is(t, "ahead of the others", means(d, 2, append(sel(t, "b"), l...), bloom.Filter{}), true)
}

// TestPlacesPicks: an Index leaves out what its buckets do.
func TestPlacesPicks(t *testing.T) {
	d := some(t)
	l := rules(t, "b", "c", "*", "#i", ".x, c")
	is(t, "with an Index", places(d, 2, l, bucket.Make(l)), "[0 2 4]")
	is(t, "without", places(d, 2, l, nil), "[0 1 2 3 4]")
}
