package bloom

import (
	"fmt"
	"slices"
	"testing"

	"gouache/api"
	"gouache/dom"
	"gouache/match"
)

// tally: how often each came: skipped, not skipped though not meant, meant.
type tally struct{ skipped, asked, meant int }

// follows: whom Skip says yes of, Complex says no of.
func (n *tally) follows(t *testing.T, what string, d *dom.Doc, c api.Complex) {
	t.Helper()
	for id := range d.Next() + 1 {
		f := Of(d, id)
		needs(t, what, f, c)
		skip, is := Skip(f, c), match.Complex(d, id, c)
		switch {
		case skip && is:
			t.Fatalf("%s: %v is skipped and means %d", what, c, id)
		case skip:
			n.skipped++
		case is:
			n.meant++
		default:
			n.asked++
		}
	}
}

// told: each came often enough to tell something.
func (n tally) told(t *testing.T, least int) {
	t.Helper()
	if n.skipped < least || n.asked < least || n.meant < least {
		t.Errorf("%+v: that tells little", n)
	}
}

// TestFollowsByChance: selectors of all sorts, of trees behind calls of all sorts.
func TestFollowsByChance(t *testing.T) {
	var n tally
	for seed := range int64(80) {
		m := newMaker(seed)
		o := m.tree(t, 30, 14)
		var old []one
		for i := range 25 {
			o = m.step(o, 14)
			what := fmt.Sprintf("seed %d, %d", seed, i)
			agree(t, what, o.doc, o.says)
			for range 4 {
				n.follows(t, what, o.doc, m.complex(2, 4))
			}
			old = append(old, o)
		}
		for _, o := range old {
			agree(t, "again", o.doc, o.says)
		}
	}
	n.told(t, 5000)
}

// TestFollowsInBigTrees: many elements, and long rows of Parts.
func TestFollowsInBigTrees(t *testing.T) {
	var n tally
	for seed := range int64(12) {
		m := newMaker(500 + seed)
		o := m.tree(t, 300, 120)
		agree(t, fmt.Sprint("seed ", seed), o.doc, o.says)
		for i := range 40 {
			n.follows(t, fmt.Sprintf("seed %d, %d", seed, i), o.doc, m.complex(1, 6))
		}
	}
	n.told(t, 1000)
}

// rows: all complex selectors of so many Parts, each a, b or anything, by all combs.
func rows(parts int) []api.Complex {
	simples := [][]api.Simple{{{Kind: api.Tag, Name: "a"}}, {{Kind: api.Tag, Name: "b"}}, {{Kind: api.Tag, Name: "*"}}}
	var now []api.Complex
	for _, s := range simples {
		now = append(now, api.Complex{Parts: [][]api.Simple{s}})
	}
	for range parts - 1 {
		var next []api.Complex
		for _, c := range now {
			for comb := api.Descendant; comb <= api.Later; comb++ {
				for _, s := range simples {
					next = append(next, api.Complex{Parts: append(slices.Clone(c.Parts), s), Combs: append(slices.Clone(c.Combs), comb)})
				}
			}
		}
		now = next
	}
	return now
}

// TestFollowsInAll: all complex selectors of up to three Parts, of all trees of up to four elements with all ways of tagging them.
func TestFollowsInAll(t *testing.T) {
	var n tally
	var all []api.Complex
	for parts := 1; parts <= 3; parts++ {
		all = append(all, rows(parts)...)
	}
	for size := 1; size <= 4; size++ {
		for tags := range 1 << size {
			tag := func(i int) string { return []string{"a", "b"}[tags>>i&1] }
			now := []one{begin(t, tag(0))}
			for i := 1; i < size; i++ {
				var next []one
				for _, o := range now {
					// The next one is the last Kid of the last element, or of one above it.
					for _, p := range append(o.says.above(i), i) {
						next = append(next, o.under(p, tag(i)))
					}
				}
				now = next
			}
			is(t, "trees", len(now), []int{1, 1, 2, 5}[size-1])
			for _, o := range now {
				for _, c := range all {
					n.follows(t, fmt.Sprintf("%d elements, tags %b", size, tags), o.doc, c)
				}
			}
		}
	}
	n.told(t, 10000)
}

// TestFollowsWithIDs: an empty id, a name with blanks, and a * that is a name.
func TestFollowsWithIDs(t *testing.T) {
	var n tally
	o := begin(t, "a").under(1, "b").set(1, "id", "").under(2, "c").set(2, "id", "x y").set(2, "class", "* x")
	for _, s := range []api.Simple{{Kind: api.ID}, {Kind: api.ID, Name: "x y"}, {Kind: api.Class, Name: "*"}, {Kind: api.Class}, {Kind: api.ID, Name: "*"}, {Kind: api.Class, Name: "x y"}, {Kind: api.Tag}} {
		for comb := api.Descendant; comb <= api.Later; comb++ {
			n.follows(t, fmt.Sprint(s), o.doc, api.Complex{Parts: [][]api.Simple{{s}, nil}, Combs: []int{comb}})
		}
	}
	n.told(t, 5)
	star := api.Complex{Parts: [][]api.Simple{{{Kind: api.Class, Name: "*"}}, nil}, Combs: []int{api.Child}}
	is(t, "a class *", []any{Needs(star), Skip(Of(o.doc, 3), star), Skip(Of(o.doc, 2), star)}, []any{[]uint32{oKey(2, "*")}, false, true})
}
