package query

import (
	"fmt"
	"slices"
	"strings"
	"testing"

	"gouache/api"
	"gouache/bucket"
	"gouache/dom"
	"gouache/sheet"
)

// TestDeep: a chain as deep as it may be.
func TestDeep(t *testing.T) {
	d := chain(t)
	is(t, "all", len(All(d, 1, sel(t, "*"))), api.MaxDepth-1)
	for s, want := range map[string]string{
		".k7":                          "[7 107 207 307 407 507]",
		".k7 .k6":                      "[106 206 306 406 506]",
		".k99 > .k0":                   "[100 200 300 400 500]",
		".k6 > .k8":                    "[]",
		".k1 .k2 .k3 .k2":              "[202 302 402 502]",
		".k3 .k2 .k1 .k0 > .k1":        "[301 401 501]",
		"a:root > b:not(b b) + *, .k9": "[9 109 209 309 409 509]",
		":empty":                       "[512]",
		"q .k1, q > .k2, .q a":         "[]",
	} {
		l := sel(t, s)
		is(t, s, All(d, 1, l), want)
		is(t, s, slices.Collect(Each(d, 1, l)), want)
		is(t, s, First(d, 1, l), oFirst(All(d, 1, l)))
	}
	is(t, "from the middle", All(d, 300, sel(t, ".k1 .k2 .k3 .k2")), "[302 402 502]")
	for s, want := range map[string]int{"*": 512, "a": 511, ".k9": 509, ".k13": 413, ":root": 1, "a > b:not(b b)": 2, ".k50 .k49": 449, ".k2:not(.k1 .k2 .k2)": 102, "q": 0} {
		is(t, "Closest "+s, Closest(d, 512, sel(t, s)), want)
	}
	l := rules(t, ".k12", "q b", "b b b > a > b", "a", ":root *, q", ".k13")
	is(t, "Matched", fmt.Sprint(Matched(d, 512, l, nil), Matched(d, 512, l, bucket.Make(l))), "[0 2 4] [0 2 4]")
}

// TestBroad: an element with many Kids.
func TestBroad(t *testing.T) {
	const many = 3000
	d := broad(t, many)
	for s, want := range map[string]int{
		"*": many + 1, "a": many / 3, "r > b": many / 3, "a + b": many / 3, "b + a": 0, "a ~ b": many / 3, "c + a": many/3 - 1, "r a ~ c": many / 3,
		"d": 1, "c > d": 1, "a > d": 0, "q > a": 0, "q ~ a": 0, ":first-child": 2, ":nth-child(3n+1)": many/3 + 1, ":last-child d": 1,
	} {
		is(t, s, len(All(d, 1, sel(t, s))), want)
	}
	is(t, "First", []int{First(d, 1, sel(t, "d")), First(d, 1, sel(t, "c")), First(d, 1, sel(t, "a ~ a")), First(d, 1, sel(t, "b d"))}, fmt.Sprint([]int{many + 2, 4, 5, 0}))
	is(t, "Closest", []int{Closest(d, many+2, sel(t, "b + *")), Closest(d, many+2, sel(t, "r")), Closest(d, many+2, sel(t, "a"))}, fmt.Sprint([]int{many + 1, 1, 0}))
	count := 0
	for range Each(d, 1, sel(t, "r > *")) {
		if count++; count == 3 {
			break
		}
	}
	is(t, "left early", count, 3)
}

// TestManyElements: a hundred thousand elements, ten Kids each.
func TestManyElements(t *testing.T) {
	const many = 100000
	d := begin(t, "r").doc
	for id := 2; id <= many; id++ {
		d, _, _ = d.Insert((id+8)/10, (id+8)%10, []string{"a", "b", "c"}[id%3])
	}
	is(t, "all", len(All(d, 1, sel(t, "*"))), many-1)
	is(t, "none", len(All(d, 1, sel(t, "q a, q > b, q c > *"))), 0)
	is(t, "First", First(d, 1, sel(t, "a")), order(d, 1)[1+slices.IndexFunc(order(d, 1)[1:], func(id int) bool { return id%3 == 0 })])
	l := sel(t, "a > b > c, b c.q, a > a > a > a")
	is(t, "some", All(d, 1, l), oAll(d, 1, l))
	for range 1000 {
		for one := range Each(d, 1, sel(t, ":not(q)")) {
			is(t, "left at once", one, 2)
			break
		}
	}
}

// nested: a list within so many others.
func nested(l []api.Complex, kind, deep int) []api.Complex {
	for range deep {
		l = []api.Complex{part(api.Simple{Kind: kind, List: l})}
	}
	return l
}

// TestNestedDeep: Lists as deep as the document's bound goes, and deeper.
func TestNestedDeep(t *testing.T) {
	d := begin(t, "a").under(1, "b").under(1, "c").doc
	for _, deep := range []int{64, 1<<16 - 1, 1 << 16} {
		for _, kind := range []int{api.Not, api.Is, api.Where} {
			l := nested(sel(t, "b"), kind, deep)
			want := 2
			if kind == api.Not && deep%2 == 1 {
				want = 3
			}
			what := fmt.Sprintf("kind %d, %d deep", kind, deep)
			is(t, what, First(d, 1, l), want)
			if deep < 1<<16 {
				continue
			}
			is(t, what, whole(d, 1, l), "[2] 2 0 [2] []")
		}
	}
	is(t, "deeper", slices.Collect(Each(d, 1, nested(sel(t, "b"), api.Is, 1<<17))), "[2]")
}

// TestLong: many selectors, many Parts, many simple ones.
func TestLong(t *testing.T) {
	const many = 1 << 16
	d := some(t)
	l := make([]api.Complex, many)
	is(t, "many of nothing", whole(d, 2, l), nothing)
	for i := range l {
		l[i] = part(class(fmt.Sprint("q", i)))
	}
	l[many-1] = sel(t, "b > c")[0]
	is(t, "the last of many", whole(d, 5, l), "[] 0 5 [] [0]")
	is(t, "the last of many", All(d, 1, l), "[5 10]")
	c := api.Complex{Parts: make([][]api.Simple, many), Combs: make([]int, many-1)}
	for i := range c.Combs {
		c.Parts[i] = []api.Simple{tag([]string{"a", "b", "*"}[i%3])}
		c.Combs[i] = api.Descendant + i%4
	}
	is(t, "many parts", whole(d, 2, []api.Complex{c}), nothing)
	simples := make([]api.Simple, many)
	for i := range simples {
		simples[i] = tag("*")
	}
	is(t, "many simple ones", All(d, 1, []api.Complex{part(simples...)}), someOrder[1:])
	simples[many-1] = class("x")
	is(t, "the last of them", All(d, 1, []api.Complex{part(simples...)}), "[2 5 9]")
	is(t, "a long text", All(d, 1, sel(t, strings.Repeat("q b,", 16000)+"b > b")), "[6]")
}

// TestManyRules: as many rules as there may be.
func TestManyRules(t *testing.T) {
	few := rules(t, ".x", "b", "*", "#i", "q b, .x", "c", "a > b", "q .x")
	l := make([]sheet.Placed, api.MaxRules)
	for i := range l {
		l[i] = few[i%len(few)]
	}
	d := some(t)
	x := bucket.Make(l)
	var want []int
	for i := range l {
		if slices.Contains([]int{0, 1, 2, 4, 6}, i%8) {
			want = append(want, i)
		}
	}
	is(t, "with an Index", slices.Equal(Matched(d, 2, l, x), want), true)
	is(t, "without", slices.Equal(Matched(d, 2, l, nil), want), true)
	is(t, "of none", len(Matched(d, 99, l, x))+len(Matched(d, 99, l, nil)), 0)
	is(t, "of an unmade Doc", len(Matched(nil, 2, l, x))+len(Matched(&dom.Doc{}, 1, l, nil)), 0)
}

// TestFullFilters: so many classes above that a filter leaves nothing out.
func TestFullFilters(t *testing.T) {
	p := begin(t, "a").under(1, "b").under(2, "c").under(3, "d")
	words := ""
	for i := range 190 {
		words += fmt.Sprint("w", i, " ")
	}
	p = p.set(1, "class", words).set(2, "class", strings.ReplaceAll(words, "w", "v"))
	for _, s := range []string{".w7 .v9 d", "q d", ".q .r d", ".w7 > .v9 > c", ".v9 .w7 d", "#w7 d", ".w189 d, .w190 c", ":not(q d)"} {
		l := sel(t, s)
		agree(t, s, p.doc, l)
		matches(t, s, p.doc, placed(l, sel(t, "q, .q d"), l))
	}
	is(t, "all", All(p.doc, 1, sel(t, ".w7 .v9 d, .w0 > b")), "[2 4]")
}
