package bucket

import (
	"fmt"
	"slices"
	"sync"
	"testing"

	"gouache/api"
	"gouache/sheet"
)

// roomy: selectors with others in the spare room behind all their lists.
func roomy(l []api.Complex) []api.Complex {
	out := make([]api.Complex, 0, len(l)+2)
	for _, c := range l {
		var n api.Complex
		n.Combs = append(append(make([]int, 0, len(c.Combs)+1), c.Combs...), 77)[:len(c.Combs)]
		n.Parts = make([][]api.Simple, 0, len(c.Parts)+1)
		for _, simples := range c.Parts {
			p := append(make([]api.Simple, 0, len(simples)+1), simples...)
			n.Parts = append(n.Parts, append(p, ident("room"))[:len(p)])
		}
		n.Parts = append(n.Parts, []api.Simple{ident("room")})[:len(c.Parts)]
		out = append(out, n)
	}
	return append(out, part(ident("room")))[:len(l)]
}

// shown: selectors with what is in the spare room.
func shown(l []api.Complex) string {
	s := ""
	for _, c := range l[:cap(l)] {
		s += fmt.Sprint("(", c.Combs[:cap(c.Combs)])
		for _, simples := range c.Parts[:cap(c.Parts)] {
			s += fmt.Sprint(simples[:cap(simples)])
		}
	}
	return s
}

// shownRules: rules with what is in the spare room.
func shownRules(l []sheet.Placed) string {
	s := ""
	for _, p := range l[:cap(l)] {
		s += fmt.Sprint(p.Sheet, p.Origin, p.Index, p.Rule.Decls, shown(p.Rule.Selector), "\n")
	}
	return s
}

// roomyRules: rules by chance with others in all spare room.
func roomyRules(m maker, most int) []sheet.Placed {
	l := m.placed(most)
	for i := range l {
		l[i].Rule.Selector = roomy(l[i].Rule.Selector)
		l[i].Rule.Decls = []api.Decl{{Name: "d"}}
	}
	room := sheet.Placed{Sheet: 5, Rule: api.Rule{Selector: []api.Complex{part(tag("room"))}}}
	return append(append(make([]sheet.Placed, 0, len(l)+1), l...), room)[:len(l)]
}

// spoil: rules and all that is in them are written over, the spare room too.
func spoil(l []sheet.Placed) {
	for i, p := range l[:cap(l)] {
		for j, c := range p.Rule.Selector[:cap(p.Rule.Selector)] {
			for k, simples := range c.Parts[:cap(c.Parts)] {
				for n := range simples[:cap(simples)] {
					simples[:cap(simples)][n] = ident("spoilt")
				}
				c.Parts[:cap(c.Parts)][k] = nil
			}
			p.Rule.Selector[:cap(p.Rule.Selector)][j] = part(tag("a"))
		}
		l[:cap(l)][i] = sheet.Placed{Rule: api.Rule{Selector: []api.Complex{part(tag("a"))}}}
	}
}

// TestNothingChanges: what Make, Last and Pick are given is as it was, with the room behind it, and so is the tree.
func TestNothingChanges(t *testing.T) {
	o := newMaker(3).tree(t, 60, 12)
	was := *o.doc
	for seed := range int64(100) {
		l := roomyRules(newMaker(seed), 12)
		before := shownRules(l)
		x := Make(l)
		for id := -1; id <= o.doc.Next(); id++ {
			x.Pick(o.doc, id)
		}
		for _, p := range l {
			for _, c := range p.Rule.Selector {
				Last(c)
			}
		}
		is(t, "handed in", shownRules(l), before)
		counts(t, "with room behind", x, l)
		picks(t, "with room behind", x, l, o)
	}
	if was != *o.doc {
		t.Error("another Doc")
	}
}

// TestNothingIsKept: who writes to the rules behind Make changes no Index.
func TestNothingIsKept(t *testing.T) {
	o := newMaker(4).tree(t, 60, 12)
	for seed := range int64(100) {
		l := roomyRules(newMaker(seed), 12)
		same := roomyRules(newMaker(seed), 12)
		x := Make(l)
		spoil(l)
		counts(t, "spoilt", x, same)
		picks(t, "spoilt", x, same, o)
		if len(l) > 0 {
			is(t, "spoilt indeed", Make(l).Size(api.Tag, "a"), len(l))
		}
	}
}

// TestAnswersAreNew: who writes into what Pick told, its spare room too, changes no Index and no other answer.
func TestAnswersAreNew(t *testing.T) {
	o := some(t)
	for _, texts := range [][]string{{"a"}, {"*"}, {"#x"}, {".x"}, {".x", ".y"}, {"*", "a", ".y", "a", "*"}, {"b", "c"}, {".x", ".x", ".x", ".x", ".x"}} {
		l := rules(t, texts...)
		x := Make(l)
		first, second := x.Pick(o.doc, 1), x.Pick(o.doc, 1)
		want := slices.Clone(second)
		for i := range first[:cap(first)] {
			first[:cap(first)][i] = -7
		}
		is(t, "another answer", second, want)
		is(t, "asked again", x.Pick(o.doc, 1), want)
		_ = append(second, 90, 91, 92)
		counts(t, "spoilt", x, l)
		picks(t, "spoilt", x, l, o)
		for _, bucket := range x.buckets {
			if len(first) > 0 && &bucket[0] == &first[0] {
				t.Error("a bucket was handed out")
			}
		}
	}
}

// TestIndexesAreApart: two Indexes of the same rules, and a copy of one, stay when the other is written over.
func TestIndexesAreApart(t *testing.T) {
	o := some(t)
	l := pickRules(t)
	x, y := Make(l), Make(l)
	if x == y {
		t.Fatal("the same Index")
	}
	c := *x
	*x = Index{}
	counts(t, "the other one", y, l)
	counts(t, "the copy", &c, l)
	picks(t, "the copy", &c, l, o)
	counts(t, "written over", x, nil)
}

// TestTheSameEachTime: made and asked again, the same is told.
func TestTheSameEachTime(t *testing.T) {
	m := newMaker(11)
	o := m.tree(t, 60, 12)
	l := m.placed(60)
	tell := func() string {
		x := Make(l)
		var s []string
		for id := range o.doc.Next() {
			s = append(s, fmt.Sprint(x.Pick(o.doc, id)))
		}
		return fmt.Sprint(s)
	}
	want := tell()
	for range 50 {
		is(t, "again", tell(), want)
	}
}

// TestSharedByMany: an Index and a tree may be asked by many at once.
func TestSharedByMany(t *testing.T) {
	m := newMaker(12)
	o := m.tree(t, 60, 12)
	l := m.placed(60)
	x := Make(l)
	var wait sync.WaitGroup
	for range 8 {
		wait.Go(func() {
			for id := range o.doc.Next() {
				got := x.Pick(o.doc, id)
				if !slices.Equal(got, oPick(l, o.says[id])) || x.Len() != len(l) || x.Size(api.Tag, "a") != oSize(l, api.Tag, "a") {
					t.Errorf("of %d", id)
				}
				clear(got)
			}
		})
	}
	wait.Wait()
}
