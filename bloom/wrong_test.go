package bloom

import (
	"fmt"
	"math"
	"sync"
	"testing"

	"gouache/api"
	"gouache/dom"
)

var farNumbers = []int{math.MinInt, math.MinInt + 1, -1 << 20, -2, -1, 0, 1 << 16, 1<<20 - 1, 1 << 20, 1<<20 + 1, 1<<20 + 2, 1<<32 + 1, 1<<32 + 2, math.MaxInt - 1, math.MaxInt}

// nothing: no keys, and nothing above.
func nothing(t *testing.T, what string, d *dom.Doc, id int) {
	t.Helper()
	if k, f := Keys(d, id), Of(d, id); len(k) != 0 || f != (Filter{}) {
		t.Errorf("%s: %d: %v, %v", what, id, k, f)
	}
}

// TestUnmade: of a Doc that no call made there is nothing.
func TestUnmade(t *testing.T) {
	refused, _ := dom.New("")
	for what, d := range map[string]*dom.Doc{"nil": nil, "zero": {}, "New's with an error": refused} {
		for _, id := range append([]int{1, 2, 3}, farNumbers...) {
			nothing(t, what, d, id)
		}
	}
}

// TestNone: of numbers that no element has, or has any more.
func TestNone(t *testing.T) {
	o := begin(t, "a").under(1, "b").under(2, "c").set(2, "class", "x").remove(2)
	for _, id := range append([]int{2, 3, 4, 5}, farNumbers...) {
		nothing(t, "none", o.doc, id)
	}
	agree(t, "the root is left", o.doc, o.says)
}

// TestWrongCounts: without Parts, or with not one Comb fewer, nothing is needed.
func TestWrongCounts(t *testing.T) {
	for parts := range 6 {
		for combs := range 7 {
			var c api.Complex
			for i := range parts {
				c.Parts = append(c.Parts, []api.Simple{{Kind: api.Tag, Name: fmt.Sprint("a", i)}})
			}
			for range combs {
				c.Combs = append(c.Combs, api.Child)
			}
			want := 0
			if combs == parts-1 {
				want = combs
			}
			is(t, fmt.Sprintf("%d parts, %d combs", parts, combs), []any{len(Needs(c)), Skip(Filter{}, c)}, []any{want, want > 0})
			needs(t, "counts", Filter{}, c)
		}
	}
	is(t, "empty", []any{len(Needs(api.Complex{})), Skip(Filter{}, api.Complex{Parts: [][]api.Simple{}, Combs: []int{}})}, "[0 false]")
}

// TestWrongCombs: a Comb that is none needs nothing; the others do.
func TestWrongCombs(t *testing.T) {
	for _, comb := range []int{math.MinInt, -2, -1, 0, 5, 6, 1<<32 + 1, 1<<32 + 2, 1<<8 + 1, math.MaxInt} {
		c := sel(t, "a b > c d")[0]
		for i := range c.Combs {
			was := c.Combs[i]
			c.Combs[i] = comb
			is(t, fmt.Sprint("comb ", comb, " at ", i), len(Needs(c)), 2)
			is(t, "skipped by the others", Skip(Filter{}, c), true)
			needs(t, "combs", Filter{}, c)
			c.Combs[i] = was
		}
		c.Combs = []int{comb, comb, comb}
		is(t, fmt.Sprint("comb ", comb, " alone"), []any{len(Needs(c)), Skip(Filter{}, c)}, "[0 false]")
	}
}

// TestWrongKinds: a Kind that is none has no key, though its lowest byte is that of one that has.
func TestWrongKinds(t *testing.T) {
	for _, kind := range []int{math.MinInt, -255, -254, -1, 0, 4, 5, 6, 7, 8, 9, 10, 11, 12, 257, 258, 259, 1<<32 + 1, math.MaxInt} {
		c := api.Complex{Parts: [][]api.Simple{{{Kind: kind, Name: "a", List: sel(t, "b c")}}, nil}, Combs: []int{api.Child}}
		is(t, fmt.Sprint("kind ", kind), []any{len(Needs(c)), Skip(Filter{}, c)}, "[0 false]")
	}
}

// TestWrongNames: names that none may have have keys all the same.
func TestWrongNames(t *testing.T) {
	for _, name := range []string{"", "A", "\xff", "a b", "**", "\x00"} {
		for kind := api.Tag; kind <= api.ID; kind++ {
			c := api.Complex{Parts: [][]api.Simple{{{Kind: kind, Name: name, Op: 9, Value: "v", A: 3, List: sel(t, "x y")}}, nil}, Combs: []int{api.Descendant}}
			is(t, fmt.Sprintf("%d %q", kind, name), Needs(c), []uint32{oKey(kind, name)})
			is(t, "skipped", []bool{Skip(Filter{}, c), Skip(Add(Filter{}, oKey(kind, name)), c)}, "[true false]")
		}
	}
}

// chain: elements 1 to MaxDepth, each the only Kid of the one ahead, of many names.
func chain(t *testing.T) one {
	t.Helper()
	o := begin(t, "a").set(1, "class", "k0")
	for id := 1; id < api.MaxDepth; id++ {
		o = o.under(id, "a").set(id+1, "class", fmt.Sprint("k", id))
	}
	return o
}

// TestDeep: as deep as may be.
func TestDeep(t *testing.T) {
	o := chain(t)
	for _, id := range []int{1, 2, 3, 100, 511, 512, 513} {
		if got, want := oFilter(Of(o.doc, id)), o.says.of(id); got.Cmp(want) != 0 {
			t.Errorf("Of %d: %x, want %x", id, got, want)
		}
	}
	c := sel(t, ".k0 > .k1 a")[0]
	is(t, "the deepest", []bool{Skip(Of(o.doc, 512), c), Skip(Of(o.doc, 1), c), Skip(Of(o.doc, 2), c)}, "[false true true]")
}

// TestLong: many Parts, many simple ones, a long name.
func TestLong(t *testing.T) {
	const many = 1 << 18
	c := api.Complex{Parts: make([][]api.Simple, many), Combs: make([]int, many-1)}
	for i := range c.Parts {
		c.Parts[i] = []api.Simple{{Kind: api.Class, Name: fmt.Sprint(i % 1000)}}
	}
	for i := range c.Combs {
		c.Combs[i] = api.Descendant + i%2
	}
	needs(t, "many parts", Filter{}, c)
	is(t, "many parts", len(Needs(c)), 1000)
	part := make([]api.Simple, many)
	for i := range part {
		part[i] = api.Simple{Kind: api.Tag, Name: fmt.Sprint("t", i)}
	}
	c = api.Complex{Parts: [][]api.Simple{part, nil}, Combs: []int{api.Child}}
	needs(t, "many simple ones", Filter{}, c)
}

// TestMemory: an answer is new memory, and what is handed in is as it was, with the room behind it.
func TestMemory(t *testing.T) {
	o := begin(t, "a").set(1, "class", "z y x z").set(1, "id", "i").under(1, "b")
	d := o.doc
	was := *d
	first := Keys(d, 1)
	for i, l := 0, first[:cap(first)]; i < len(l); i++ {
		l[i] = 7
	}
	agree(t, "an answer was changed", d, o.says)
	if was != *d {
		t.Error("another Doc")
	}
	simples := append(make([]api.Simple, 0, 4), sel(t, "z.y.x#a")[0].Parts[0]...)
	room := append(simples, api.Simple{Kind: api.Tag, Name: "room"})
	combs := append(make([]int, 0, 4), api.Child, api.Descendant)
	roomy := combs[:3]
	roomy[2] = 9
	parts := [][]api.Simple{simples, {{Kind: api.Tag, Name: "q"}}, nil, room}
	c := api.Complex{Parts: parts[:3], Combs: combs}
	before := fmt.Sprint(parts, room, roomy)
	want := oNeeds(c)
	needed := Needs(c)
	Skip(Filter{}, c)
	is(t, "handed in", fmt.Sprint(parts, room, roomy), before)
	for i, l := 0, needed[:cap(needed)]; i < len(l); i++ {
		l[i] = 7
	}
	is(t, "asked again", Needs(c), want)
	c.Parts[0][0].Name = "w"
	is(t, "changed behind the call", Needs(c), oNeeds(c))
}

// TestSharedByMany: a tree and a selector may be asked by many at once.
func TestSharedByMany(t *testing.T) {
	o := newMaker(3).tree(t, 100, 30)
	c := sel(t, "a .x > b, b")[0]
	var wait sync.WaitGroup
	for range 8 {
		wait.Go(func() {
			for id := range o.doc.Next() {
				if Skip(Of(o.doc, id), c) != oSkip(o.says.of(id), c) || len(Keys(o.doc, id)) != len(o.says.keys(id)) || len(Needs(c)) != 2 {
					t.Errorf("of %d", id)
				}
			}
		})
	}
	wait.Wait()
}
