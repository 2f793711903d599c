package dom

import (
	"fmt"
	"math/rand"
	"sync"
	"testing"

	"gouache/api"
)

// spoil: everything that a Node's lists reach is written over, their spare room too.
func spoil(n api.Node) {
	kids, attrs := n.Kids[:cap(n.Kids)], n.Attrs[:cap(n.Attrs)]
	for i := range kids {
		kids[i] = -7
	}
	for i := range attrs {
		attrs[i] = api.Attr{Name: "spoilt", Value: "spoilt"}
	}
}

// spoilAll: the lists of each element that a tree tells.
func spoilAll(d *Doc) {
	for id := range d.Next() {
		n, _ := d.Node(id)
		spoil(n)
	}
}

// TestAnswersAreNew: who writes into what Node answered changes no tree, and no other answer.
func TestAnswersAreNew(t *testing.T) {
	d := made(t, "r").insert(t, 1, 0, "a").insert(t, 1, 1, "b").insert(t, 1, 1, "c").set(t, 1, "id", "x").set(t, 1, "class", "y").set(t, 3, "id", "z")
	before := show(d, 1)
	a, _ := d.Node(1)
	b, _ := d.Node(1)
	spoil(a)
	is(t, "another answer", showNode(b, true), `1 "r" 0 [2 4 3] [{"class" "y"} {"id" "x"}] true`)
	is(t, "the tree", show(d, 1), before)
	all := []*Doc{d, d.insert(t, 1, 3, "e"), d.insert(t, 1, 0, "f"), d.remove(t, 4), d.move(t, 4, 1, 2), d.move(t, 4, 2, 0), d.set(t, 1, "id", "w"), d.set(t, 1, "a", "w"), d.drop(t, 1, "id")}
	var looks []string
	for _, x := range all {
		looks = append(looks, show(x, 1))
	}
	for _, x := range all {
		spoilAll(x)
		for i, y := range all {
			is(t, "a tree behind a spoilt answer", show(y, 1), looks[i])
		}
	}
}

// TestWordsAreNew: an answer of Words is new memory.
func TestWordsAreNew(t *testing.T) {
	a, b := Words("a b c"), Words("a b c")
	for i := range a[:cap(a)] {
		a[:cap(a)][i] = "x"
	}
	is(t, "another answer", b, "[a b c]")
	is(t, "asked again", Words("a b c"), "[a b c]")
}

// TestSpareRoom: many trees are made of each tree, at the ends of its lists and within, so that none of them may write into room that another one has.
func TestSpareRoom(t *testing.T) {
	d := made(t, "r")
	for i := range 40 {
		d = d.insert(t, 1, i, "k")
		if i < 14 {
			d = d.set(t, 1, fmt.Sprintf("a%02d", i), "x")
		}
		before := show(d, 1)
		l := []*Doc{d.insert(t, 1, i+1, "p"), d.insert(t, 1, i+1, "q"), d.insert(t, 1, 0, "s"), d.move(t, 2, 1, i), d.move(t, i+2, 1, 0), d.remove(t, 2), d.remove(t, i+2), d.set(t, 1, "z", "1"), d.set(t, 1, "z", "2"), d.set(t, 1, "a", "3"), d.set(t, 1, "a00", "4"), d.drop(t, 1, "a00")}
		var looks []string
		for _, x := range l {
			looks = append(looks, show(x, 1))
		}
		for j, x := range l {
			x.insert(t, 1, 0, "t")
			x.insert(t, 1, len(kidsOf(x, 1)), "t")
			x.set(t, 1, "z", "5")
			x.set(t, 1, "zz", "6")
			is(t, fmt.Sprintf("%d of %d", j, i), show(x, 1), looks[j])
		}
		is(t, "what they were made of", show(d, 1), before)
	}
}

// TestOlderOnesStay: each tree of a long row is asked again behind all that was made of it.
func TestOlderOnesStay(t *testing.T) {
	r := rand.New(rand.NewSource(7))
	now := made(t, "r")
	all, looks := []*Doc{now}, []string{show(now, 1)}
	for range 600 {
		next, err := now, api.ErrNoNode
		id, to := 1+r.Intn(now.Next()), 1+r.Intn(now.Next())
		switch r.Intn(8) {
		case 0, 1, 2:
			next, _, err = now.Insert(id, r.Intn(len(kidsOf(now, id))+1), "k")
		case 3, 4:
			next, err = now.Move(id, to, r.Intn(len(kidsOf(now, to))+1))
		case 5:
			if len(kidsOf(now, id)) == 0 {
				next, err = now.Remove(id)
			}
		case 6:
			next, err = now.SetAttr(id, string(rune('a'+r.Intn(4))), fmt.Sprint(r.Intn(100)))
		default:
			next, err = now.DropAttr(id, string(rune('a'+r.Intn(4))))
		}
		if (err == api.OK) == (next == now) {
			t.Fatalf("%v, the same one: %v", err, next == now)
		}
		now = next
		all, looks = append(all, now), append(looks, show(now, 1))
	}
	for i, d := range all {
		is(t, fmt.Sprint("tree ", i), show(d, 1), looks[i])
		eachOnce(t, fmt.Sprint("tree ", i), d)
	}
}

// TestCopies: a copy of a Doc is a Doc too, and stays where the other one is written over.
func TestCopies(t *testing.T) {
	d := made(t, "r").insert(t, 1, 0, "a").set(t, 2, "id", "x")
	c := *d
	next := d.insert(t, 2, 0, "b")
	*d = Doc{}
	is(t, "the copy", show(&c, 1), "r1(a2 id=x())")
	is(t, "what was made of it", show(next, 1), "r1(a2 id=x(b3()))")
	is(t, "made of the copy", show(c.insert(t, 1, 1, "c"), 1), "r1(a2 id=x() c3())")
}

// TestSharedByMany: a tree may be read, and others made of it, by many at once.
func TestSharedByMany(t *testing.T) {
	d := made(t, "r").insert(t, 1, 0, "a").insert(t, 1, 1, "b").set(t, 1, "id", "x")
	before := show(d, 1)
	var all sync.WaitGroup
	looks := make([]string, 8)
	for i := range looks {
		all.Go(func() {
			x := d
			for j := range 50 {
				x, _, _ = x.Insert(1, j%3, "k")
				x, _ = x.Move(2, 1, j%3)
				x, _ = x.SetAttr(1, "n", fmt.Sprint(j))
				spoilAll(x)
				show(d, 1)
			}
			looks[i] = show(x, 1)
		})
	}
	all.Wait()
	for _, s := range looks {
		is(t, "each made the same", s, looks[0])
	}
	is(t, "the one of all", show(d, 1), before)
}
