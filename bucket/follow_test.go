package bucket

import (
	"fmt"
	"slices"
	"testing"

	"gouache/api"
	"gouache/match"
	"gouache/sheet"
)

// tally: how often each came: not picked, picked though not meant, meant.
type tally struct{ left, vain, meant int }

// follows: each rule that means an element is Picked; and what is Picked is what the oracle says.
func (n *tally) follows(t *testing.T, what string, l []sheet.Placed, x *Index, o one) {
	t.Helper()
	picks(t, what, x, l, o)
	for id := range o.doc.Next() + 1 {
		picked := x.Pick(o.doc, id)
		for place, p := range l {
			means := match.List(o.doc, id, p.Rule.Selector)
			_, has := slices.BinarySearch(picked, place)
			switch {
			case means && !has:
				t.Fatalf("%s: rule %d (%v) means %d, and is not picked", what, place, p.Rule.Selector, id)
			case means:
				n.meant++
			case has:
				n.vain++
			default:
				n.left++
			}
		}
	}
}

// told: each came often enough to tell something.
func (n tally) told(t *testing.T, least int) {
	t.Helper()
	if n.left < least || n.vain < least || n.meant < least {
		t.Errorf("%+v: that tells little", n)
	}
}

// TestFollowsByChance: rules of all sorts, of trees behind calls of all sorts; older trees and Indexes are asked again.
func TestFollowsByChance(t *testing.T) {
	var n tally
	for seed := range int64(60) {
		m := newMaker(seed)
		o := m.tree(t, 40, 12)
		l := m.placed(25)
		x := Make(l)
		counts(t, fmt.Sprint("seed ", seed), x, l)
		old := []one{}
		for i := range 25 {
			o = m.step(o, 12)
			what := fmt.Sprintf("seed %d, %d", seed, i)
			n.follows(t, what, l, x, o)
			more := m.placed(8)
			n.follows(t, what+", others", more, Make(more), o)
			old = append(old, o)
		}
		for _, o := range old {
			picks(t, "again", x, l, o)
		}
		counts(t, "again", x, l)
	}
	n.told(t, 20000)
}

// TestFollowsInBigTrees: many elements and many rules.
func TestFollowsInBigTrees(t *testing.T) {
	var n tally
	for seed := range int64(6) {
		m := newMaker(700 + seed)
		o := m.tree(t, 400, 100)
		l := m.placed(400)
		n.follows(t, fmt.Sprint("seed ", seed), l, Make(l), o)
	}
	n.told(t, 5000)
}

// everyElement: one tree, below whose root there is an element of each tag, id and class.
func everyElement(t *testing.T) one {
	t.Helper()
	o := begin(t, "a")
	for _, tag := range []string{"a", "b", "c"} {
		for _, id := range []string{"-", "", "x", "y"} {
			for _, class := range []string{"-", "", "x", "y", "x\ny", "y  y", " \tx"} {
				at := o.doc.Next()
				o = o.under(1, tag)
				if id != "-" {
					o = o.set(at, "id", id)
				}
				if class != "-" {
					o = o.set(at, "class", class)
				}
			}
		}
	}
	return o
}

// TestFollowsInAll: all parts of up to three of ten simple selectors, each a rule of its own, of an element of each sort; and each two of those of up to one as one rule.
func TestFollowsInAll(t *testing.T) {
	var n tally
	o := everyElement(t)
	var lists [][]api.Complex
	for many := range 4 {
		for _, l := range allParts(someSimples(t), many) {
			lists = append(lists, []api.Complex{part(l...)})
		}
	}
	few := lists[:11]
	for _, a := range few {
		for _, b := range few {
			lists = append(lists, slices.Concat(a, b))
		}
	}
	is(t, "rules", len(lists), 1+10+100+1000+121)
	l := placed(lists...)
	x := Make(l)
	counts(t, "all", x, l)
	n.follows(t, "all", l, x, o)
	n.told(t, 5000)
}

// TestFollowsOverCombs: the last part alone counts, by whichever comb it stands behind others.
func TestFollowsOverCombs(t *testing.T) {
	var n tally
	o := begin(t, "a").set(1, "class", "x").under(1, "b").set(2, "id", "x").under(1, "a").set(3, "class", "y x").under(3, "b").under(3, "c").set(5, "class", "x").set(5, "id", "y").under(5, "a")
	var lists [][]api.Complex
	some := someSimples(t)
	for _, first := range some {
		for _, last := range allParts(some, 1) {
			for comb := api.Descendant; comb <= api.Later; comb++ {
				lists = append(lists, []api.Complex{{Parts: [][]api.Simple{{first}, last}, Combs: []int{comb}}})
			}
		}
	}
	for s := range 60 {
		lists = append(lists, slices.Concat(lists[s*3], lists[s*5], lists[s]))
	}
	l := placed(lists...)
	n.follows(t, "combs", l, Make(l), o)
	n.told(t, 100)
}

// TestFollowsRead: rules that sheets read from texts.
func TestFollowsRead(t *testing.T) {
	var n tally
	o := everyElement(t)
	s := sheet.New()
	for origin, text := range []string{
		"a{} b{} *{} .x{} #x{} a.x{} .x#y{} a > .y, b{} :not(.x){} :is(#x, .y){} a :where(b){} 1{}",
		"[id]{} [id='']{} [class~=x]{} :nth-child(2n){} a:first-child{} :root{} a:root, :empty{} b:not(#x):not(.y){} a + b{} a ~ .x.y{}",
		".y.x{} .x.y{} #x#y{} #x#x{} *.x *{} * .x, * .y{} c#x, c#y, c.x, c.y, c{} q{} .q{} #q{}",
	} {
		s, _, _ = s.Add(origin+1, text)
	}
	l := s.All()
	is(t, "rules", len(l), 31)
	n.follows(t, "read", l, Make(l), o)
	n.told(t, 100)
}
