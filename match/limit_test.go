package match

import (
	"fmt"
	"strings"
	"testing"

	"gouache/api"
	"gouache/dom"
)

// chain: elements 1 to MaxDepth, all a, each the only Kid of the one ahead.
func chain(t *testing.T) *dom.Doc {
	t.Helper()
	d := begin(t, "a").doc
	for id := 1; id < api.MaxDepth; id++ {
		next, _, err := d.Insert(id, 0, "a")
		if err != api.OK {
			t.Fatal(err)
		}
		d = next
	}
	return d
}

// broad: a root r with so many Kids, all a.
func broad(t *testing.T, many int) *dom.Doc {
	t.Helper()
	d := begin(t, "r").doc
	for i := range many {
		next, _, err := d.Insert(1, i, "a")
		if err != api.OK {
			t.Fatal(err)
		}
		d = next
	}
	return d
}

// TestManyWaysUp: as many rows of elements as no call could try one by one. Who tries them so does not end.
func TestManyWaysUp(t *testing.T) {
	d := chain(t)
	for _, n := range []int{10, 100, 510} {
		for _, w := range []struct {
			s    string
			want bool
		}{
			{strings.Repeat("a ", n) + "a", true},
			{"x " + strings.Repeat("a ", n) + "a", false},
			{"x > " + strings.Repeat("a ", n) + "a", false},
			{"a + " + strings.Repeat("a ", n) + "a", false},
			{":root > " + strings.Repeat("a ", n) + "a", true},
			{strings.Repeat("a > a ", n/2) + "a", true},
			{"x " + strings.Repeat("a > a ", n/2) + "a", false},
			{"x " + strings.Repeat("a > a > a ", n/3) + "a", false},
		} {
			is(t, fmt.Sprintf("%.20s.. of %d", w.s, n), List(d, 512, sel(t, w.s)), w.want)
		}
	}
	is(t, "as many as there are", List(d, 512, sel(t, strings.Repeat("a ", 511)+"a")), true)
	is(t, "one more", List(d, 512, sel(t, strings.Repeat("a ", 512)+"a")), false)
	is(t, "far more", List(d, 512, sel(t, strings.Repeat("a ", 30000)+"a")), false)
	is(t, "as many, by Child", List(d, 512, sel(t, strings.Repeat("a > ", 511)+"a")), true)
	is(t, "one more, by Child", List(d, 512, sel(t, strings.Repeat("a > ", 512)+"a")), false)
	is(t, "from the middle", []bool{List(d, 256, sel(t, strings.Repeat("a ", 255)+"a")), List(d, 255, sel(t, strings.Repeat("a ", 255)+"a"))}, "[true false]")
}

// TestManyWaysBack: the same among Kids.
func TestManyWaysBack(t *testing.T) {
	const many = 1000
	d := broad(t, many)
	last := many + 1
	for _, w := range []struct {
		s    string
		want bool
	}{
		{"x ~ a", false},
		{strings.Repeat("a ~ ", 100) + "a", true},
		{"x ~ " + strings.Repeat("a ~ ", 100) + "a", false},
		{"x + " + strings.Repeat("a ~ ", 100) + "a", false},
		{"x > " + strings.Repeat("a ~ ", 100) + "a", false},
		{"x " + strings.Repeat("a + a ~ ", 50) + "a", false},
		{"r > " + strings.Repeat("a + a ~ ", 50) + "a", true},
		{":first-child + " + strings.Repeat("a ~ ", 100) + "a", true},
		{":nth-last-child(1000) + " + strings.Repeat("a ~ ", 10) + "a", true},
		{strings.Repeat("a ~ ", many-1) + "a", true},
		{strings.Repeat("a ~ ", many) + "a", false},
		{strings.Repeat("a + ", many-1) + "a", true},
		{strings.Repeat("a + ", many) + "a", false},
	} {
		is(t, fmt.Sprintf("%.20s..", w.s), List(d, last, sel(t, w.s)), w.want)
	}
	is(t, "from the middle", []bool{List(d, 501, sel(t, strings.Repeat("a ~ ", 499)+"a")), List(d, 500, sel(t, strings.Repeat("a ~ ", 499)+"a"))}, "[true false]")
}

// TestManyWaysWithin: Lists within that go leftward from each element on; who asks them anew each time does not end.
func TestManyWaysWithin(t *testing.T) {
	up, back := chain(t), broad(t, 500)
	for _, kind := range []string{":is(", ":where(", ":not("} {
		for _, comb := range []string{" ", " ~ ", " > ", " + "} {
			for _, first := range []string{"x", "a"} {
				s := first
				for range 60 {
					s = kind + s + comb + "a)"
				}
				d, id := up, 512
				if comb == " ~ " || comb == " + " {
					d, id = back, 501
				}
				// Nobody is x, and the last one has more a ahead of it than the lists are nested.
				want := first == "a"
				if kind == ":not(" {
					want = notWithin(first, comb, 60)
				}
				is(t, fmt.Sprintf("%.15s%s%s", s, first, comb), List(d, id, sel(t, s)), want)
			}
		}
	}
}

// notWithin: does :not(:not(.. a) a), nested so often, mean the last one of a long row of a? It is reckoned from the inside, for each element of a row that is longer than the lists are nested: behind so many, all elements are told alike.
func notWithin(first, comb string, nested int) bool {
	const long = 100
	var in [long]bool
	for i := range in {
		in[i] = first == "a"
	}
	for range nested {
		var next [long]bool
		for i := range next {
			ahead := i > 0 && in[i-1]
			if comb == " " || comb == " ~ " {
				for k := range i {
					ahead = ahead || in[k]
				}
			}
			next[i] = !ahead
		}
		in = next
	}
	return in[long-1]
}

// nested: a list within so many others.
func nested(l []api.Complex, kind, deep int) []api.Complex {
	for range deep {
		l = []api.Complex{{Parts: [][]api.Simple{{{Kind: kind, List: l}}}}}
	}
	return l
}

// TestNestedDeep: as deep as the document's bound goes, and deeper.
func TestNestedDeep(t *testing.T) {
	d := some(t).doc
	for _, deep := range []int{64, 1000, 1 << 16, 1<<16 + 1, 1 << 17} {
		for _, kind := range []int{api.Not, api.Is, api.Where} {
			l := nested(sel(t, "b"), kind, deep)
			for _, id := range []int{1, 2, 10} {
				want := id < 10 && (id == 2) != (kind == api.Not && deep%2 == 1)
				what := fmt.Sprintf("kind %d, %d deep, of %d", kind, deep, id)
				is(t, what, List(d, id, l), want)
				if deep > 1<<16 {
					continue
				}
				_, ok := Best(d, id, l)
				is(t, what, []bool{One(d, id, l[0].Parts[0][0]), Compound(d, id, l[0].Parts[0]), Complex(d, id, l[0]), ok}, []bool{want, want, want, want})
			}
		}
	}
}

// TestLongLists: many complex selectors, many Parts, many simple ones.
func TestLongLists(t *testing.T) {
	d := some(t).doc
	const many = 1 << 18
	l := make([]api.Complex, many)
	is(t, "none of many", List(d, 1, l), false)
	l[many-1] = sel(t, "a")[0]
	is(t, "the last of many", []bool{List(d, 1, l), List(d, 2, l)}, "[true false]")
	spec, ok := Best(d, 1, l)
	is(t, "Best of many", fmt.Sprint(spec, ok), "{0 0 1} true")
	c := api.Complex{Parts: make([][]api.Simple, many), Combs: make([]int, many-1)}
	for i := range c.Combs {
		c.Combs[i] = api.Descendant + i%4
	}
	is(t, "many parts", []bool{Complex(d, 8, c), One(d, 8, api.Simple{Kind: api.Not, List: []api.Complex{c}})}, "[false true]")
	part := make([]api.Simple, many)
	for i := range part {
		part[i] = api.Simple{Kind: api.Tag, Name: "*"}
	}
	is(t, "many simple ones", Compound(d, 8, part), true)
	part[many-1].Name = "a"
	is(t, "the last one false", Compound(d, 8, part), false)
}
