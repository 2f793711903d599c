package match

import (
	"fmt"
	"slices"
	"sync"
	"testing"

	"gouache/api"
)

// roomy: a list with others in the spare room behind all its lists, those within too.
func roomy(l []api.Complex) []api.Complex {
	out := make([]api.Complex, 0, len(l)+2)
	for _, c := range l {
		var n api.Complex
		n.Combs = append(append(make([]int, 0, len(c.Combs)+1), c.Combs...), 77)[:len(c.Combs)]
		n.Parts = make([][]api.Simple, 0, len(c.Parts)+1)
		for _, part := range c.Parts {
			p := append(make([]api.Simple, 0, len(part)+1), part...)
			for i := range p {
				p[i].List = roomy(p[i].List)
			}
			n.Parts = append(n.Parts, append(p, api.Simple{Kind: 88})[:len(p)])
		}
		n.Parts = append(n.Parts, []api.Simple{{Kind: 99}})[:len(c.Parts)]
		out = append(out, n)
	}
	return append(out, api.Complex{Combs: []int{66}})[:len(l)]
}

// shown: a list with what is in the spare room.
func shown(l []api.Complex) string {
	s := ""
	for _, c := range l[:cap(l)] {
		s += fmt.Sprint("(", c.Combs[:cap(c.Combs)])
		for _, part := range c.Parts[:cap(c.Parts)] {
			s += "["
			for _, one := range part[:cap(part)] {
				s += shown(one.List)
				one.List = nil
				s += fmt.Sprint(one)
			}
		}
	}
	return s
}

// TestNothingChanges: what is handed in is as it was, with the room behind it, and so is the tree.
func TestNothingChanges(t *testing.T) {
	o := some(t)
	was := *o.doc
	m := newMaker(5)
	for range 300 {
		l := roomy(m.list(2, 4))
		before := shown(l)
		for id := -1; id <= o.doc.Next(); id++ {
			List(o.doc, id, l)
			Best(o.doc, id, l)
			for _, c := range l {
				Complex(o.doc, id, c)
				for _, part := range c.Parts {
					Compound(o.doc, id, part)
					for _, s := range part {
						One(o.doc, id, s)
					}
				}
			}
		}
		if shown(l) != before {
			t.Fatalf("changed: %s, was %s", shown(l), before)
		}
		agree(t, "with room behind", o.doc, o.says, l)
	}
	if was != *o.doc {
		t.Error("another Doc")
	}
}

// TestNothingIsKept: a list is asked, changed, and asked again.
func TestNothingIsKept(t *testing.T) {
	o := some(t)
	l := sel(t, "a > b c, :is(b, e) > *")
	is(t, "as it was", whom(o.doc, l), "[5 6 7 9]")
	l[0].Parts[1][0].Name = "e"
	is(t, "a name", whom(o.doc, l), "[5 6 7 9]")
	l[1].Parts[0][0].List[0].Parts[0][0].Name = "c"
	is(t, "a name within", whom(o.doc, l), "[8 9]")
	l[0].Combs[1] = api.Later
	is(t, "a comb", whom(o.doc, l), "[8 9]")
	l[1].Parts[0] = nil
	is(t, "a part", whom(o.doc, l), "[2 3 4 5 6 7 8 9]")
	l = l[:1]
	is(t, "one fewer", whom(o.doc, l), "[]")
	agree(t, "at last", o.doc, o.says, l)
}

// TestSharedByMany: a tree and a list may be asked by many at once.
func TestSharedByMany(t *testing.T) {
	o := some(t)
	l := sel(t, "a > b .x, :not(b c, a) ~ :is(b + e), :is(:is(a *) *) > d")
	want := whom(o.doc, l)
	looks := make([][]int, 8)
	var wait sync.WaitGroup
	for i := range looks {
		wait.Go(func() {
			for range 50 {
				looks[i] = whom(o.doc, l)
				Best(o.doc, i, l)
			}
		})
	}
	wait.Wait()
	for _, got := range looks {
		if !slices.Equal(got, want) {
			t.Errorf("%v, want %v", got, want)
		}
	}
}
