package query

import (
	"fmt"
	"slices"
	"sync"
	"testing"

	"gouache/api"
	"gouache/bucket"
	"gouache/sheet"
)

// roomy: a list with others in the spare room behind all its lists, those within too.
func roomy(l []api.Complex) []api.Complex {
	out := make([]api.Complex, 0, len(l)+2)
	for _, c := range l {
		var n api.Complex
		n.Combs = append(append(make([]int, 0, len(c.Combs)+1), c.Combs...), 77)[:len(c.Combs)]
		n.Parts = make([][]api.Simple, 0, len(c.Parts)+1)
		for _, simples := range c.Parts {
			p := append(make([]api.Simple, 0, len(simples)+1), simples...)
			for i := range p {
				p[i].List = roomy(p[i].List)
			}
			n.Parts = append(n.Parts, append(p, ident("room"))[:len(p)])
		}
		n.Parts = append(n.Parts, []api.Simple{ident("room")})[:len(c.Parts)]
		out = append(out, n)
	}
	return append(out, part(tag("*")))[:len(l)]
}

// shown: a list with what is in the spare room.
func shown(l []api.Complex) string {
	s := ""
	for _, c := range l[:cap(l)] {
		s += fmt.Sprint("(", c.Combs[:cap(c.Combs)])
		for _, simples := range c.Parts[:cap(c.Parts)] {
			s += "["
			for _, one := range simples[:cap(simples)] {
				s += shown(one.List)
				one.List = nil
				s += fmt.Sprint(one)
			}
		}
	}
	return s
}

// roomyRules: rules with others in all spare room.
func roomyRules(l []sheet.Placed) []sheet.Placed {
	out := make([]sheet.Placed, 0, len(l)+1)
	for _, p := range l {
		p.Rule.Selector = roomy(p.Rule.Selector)
		p.Rule.Decls = []api.Decl{{Name: "d"}}
		out = append(out, p)
	}
	return append(out, sheet.Placed{Sheet: 5, Rule: api.Rule{Selector: []api.Complex{part(tag("*"))}}})[:len(l)]
}

// shownRules: rules with what is in the spare room.
func shownRules(l []sheet.Placed) string {
	s := ""
	for _, p := range l[:cap(l)] {
		s += fmt.Sprint(p.Sheet, p.Origin, p.Index, p.Rule.Decls, shown(p.Rule.Selector), "\n")
	}
	return s
}

// TestNothingChanges: what is handed in is as it was, with the room behind it, and so is the tree.
func TestNothingChanges(t *testing.T) {
	d := some(t)
	was := *d
	m := newMaker(5)
	for range 200 {
		l := roomy(m.list(2, 4))
		before := shown(l)
		agree(t, "with room behind", d, l)
		is(t, "handed in", shown(l), before)
		r := roomyRules(m.placed(10))
		before = shownRules(r)
		matches(t, "with room behind", d, r)
		is(t, "rules handed in", shownRules(r), before)
	}
	if was != *d {
		t.Error("another Doc")
	}
	is(t, "order", order(d, 1), someOrder)
}

// TestNothingIsKept: a list is asked, changed, and asked again.
func TestNothingIsKept(t *testing.T) {
	d := some(t)
	l := sel(t, "a > b c, :is(c, q) > *")
	is(t, "as it was", whole(d, 1, l), "[5 10 9] 5 0 [5 10 9] []")
	l[0].Parts[2][0].Name = "d"
	is(t, "a name", whole(d, 1, l), "[8 9] 8 0 [8 9] []")
	l[1].Parts[0][0].List[1].Parts[0][0].Name = "a"
	is(t, "a name within", whole(d, 1, l), "[7 2 8 3 4 9] 7 0 [7 2 8 3 4 9] []")
	l[1].Combs[0] = api.Descendant
	is(t, "a comb", whole(d, 5, l), "[] 0 5 [] [0]")
	l[1].Parts[1] = []api.Simple{tag("e")}
	is(t, "a part", whole(d, 1, l), "[7 8 9] 7 0 [7 8 9] []")
	l = l[:1]
	is(t, "one fewer", whole(d, 2, l), "[8] 8 0 [8] []")
	r := rules(t, "b", "c")
	x := bucket.Make(r)
	is(t, "rules", Matched(d, 2, r, x), "[0]")
	r[0].Rule.Selector[0].Parts[0] = append(r[0].Rule.Selector[0].Parts[0], class("q"))
	is(t, "a rule that is changed", Matched(d, 2, r, x), "[]")
}

// spoil: writes over a list, its spare room too.
func spoil(l []int) {
	for i := range l[:cap(l)] {
		l[:cap(l)][i] = -7
	}
}

// TestAnswersAreNew: who writes over an answer changes neither the tree, nor rules or an Index, nor another answer.
func TestAnswersAreNew(t *testing.T) {
	d := some(t)
	l := sel(t, "b *, e")
	const want = "[7 5 6 8 10 9]"
	a, b := All(d, 1, l), All(d, 1, l)
	spoil(a)
	is(t, "another All", b, want)
	is(t, "All again", All(d, 1, l), want)
	each := Each(d, 1, l)
	spoil(slices.Collect(each))
	is(t, "Each again", slices.Collect(each), want)
	for _, texts := range [][]string{{"b"}, {"*"}, {"b", "c", ".x"}, {".x", ".x", ".x", ".x", ".x"}, {"*", "*", "a > b"}} {
		r := rules(t, texts...)
		x := bucket.Make(r)
		for _, index := range []*bucket.Index{nil, x} {
			a, b = Matched(d, 2, r, index), Matched(d, 2, r, index)
			spoil(a)
			_ = append(b, 90, 91)
			is(t, "another Matched", b, oMatched(d, 2, r))
			is(t, "Matched again", Matched(d, 2, r, index), oMatched(d, 2, r))
		}
		matches(t, "spoilt", d, r)
	}
}

// TestTheSameEachTime: asked again, the same is told.
func TestTheSameEachTime(t *testing.T) {
	m := newMaker(11)
	d := m.tree(t, 100, 30)
	l, r := m.list(2, 4), m.placed(60)
	tell := func() string {
		s := ""
		x := bucket.Make(r)
		for id := range d.Next() {
			s += whole(d, id, l) + fmt.Sprint(Matched(d, id, r, x), Matched(d, id, r, nil))
		}
		return s
	}
	want := tell()
	for range 20 {
		is(t, "again", tell(), want)
	}
}

// TestSharedByMany: a tree, a list, rules, an Index and an iterator may be asked by many at once.
func TestSharedByMany(t *testing.T) {
	m := newMaker(12)
	d := m.tree(t, 200, 40)
	l, r := sel(t, "a > b, .x *, :not(b c, a) ~ :is(b + c), :is(:is(a *) *) > a"), m.placed(40)
	x := bucket.Make(r)
	all := Each(d, 1, l)
	want := oAll(d, 1, l)
	var wait sync.WaitGroup
	for range 8 {
		wait.Go(func() {
			for id := range d.Next() {
				got := slices.Collect(all)
				if !slices.Equal(got, want) || !slices.Equal(first(all, 2), want[:2]) || whole(d, id, l) == "" {
					t.Errorf("Each: %v, want %v", got, want)
				}
				spoil(got)
				rules := Matched(d, id, r, x)
				if !slices.Equal(rules, oMatched(d, id, r)) {
					t.Errorf("Matched of %d", id)
				}
				spoil(rules)
			}
		})
	}
	wait.Wait()
}

// TestCopied: a copy asks what the list asks, and shares nothing with it that can be written; what no Kind names is left out.
func TestCopied(t *testing.T) {
	for seed := range int64(300) {
		l := roomy(newMaker(seed).list(3, 3))
		c := copied(l)
		before := shown(l)
		want := fmt.Sprintf("%+v", bare(l))
		is(t, "the same", fmt.Sprintf("%+v", c), want)
		spoilt(slices.Clip(c))
		is(t, "the list behind the copy", shown(l), before)
		c = copied(l)
		spoilt(l)
		is(t, "the copy behind the list", fmt.Sprintf("%+v", c), want)
	}
	is(t, "none", len(copied(nil))+len(copied([]api.Complex{})), 0)
}

// bare: a list without the Lists that a Kind does not name.
func bare(l []api.Complex) []api.Complex {
	out := slices.Clone(l)
	for i, c := range out {
		out[i].Parts = slices.Clone(c.Parts)
		for k, simples := range c.Parts {
			out[i].Parts[k] = slices.Clone(simples)
			for n, s := range simples {
				s.List = bare(s.List)
				if !slices.Contains([]int{api.Not, api.Is, api.Where}, s.Kind) {
					s.List = nil
				}
				out[i].Parts[k][n] = s
			}
		}
	}
	return out
}
