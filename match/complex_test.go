package match

import (
	"fmt"
	"slices"
	"testing"

	"gouache/api"
)

// shaped: all trees of so many elements, numbered as they are written, each tagged by a way of tagging (a bit for each element).
func shaped(t *testing.T, size, tags int) []one {
	t.Helper()
	tag := func(i int) string { return []string{"a", "b"}[tags>>i&1] }
	now := []one{begin(t, tag(0))}
	for i := 1; i < size; i++ {
		var next []one
		for _, o := range now {
			// The next one is the last Kid of the last element, or of one above it.
			for n, p := o.says.find(i); n != nil; n, p = o.says.find(p.id) {
				next = append(next, o.under(n.id, tag(i)))
				if p == nil {
					break
				}
			}
		}
		now = next
	}
	return now
}

// rows: all complex selectors of so many Parts, each a, b or nothing, by all combs.
func rows(parts int) []api.Complex {
	simples := [][]api.Simple{{{Kind: api.Tag, Name: "a"}}, {{Kind: api.Tag, Name: "b"}}, nil}
	var now []api.Complex
	for _, s := range simples {
		now = append(now, api.Complex{Parts: [][]api.Simple{s}})
	}
	for range parts - 1 {
		var next []api.Complex
		for _, c := range now {
			for comb := api.Descendant; comb <= api.Later; comb++ {
				for _, s := range simples {
					next = append(next, api.Complex{Parts: append(slices.Clone(c.Parts), s), Combs: append(slices.Clone(c.Combs), comb)})
				}
			}
		}
		now = next
	}
	return now
}

// meant: Complex tells what the oracle says, of each element.
func meant(t *testing.T, what string, o one, c api.Complex) {
	t.Helper()
	want := o.says.complex(c)
	for id := 1; id < o.doc.Next(); id++ {
		if got := Complex(o.doc, id, c); got != has(want, id) {
			t.Fatalf("%s: %v of %d: %v", what, c, id, got)
		}
	}
}

// TestAllRows: all complex selectors of up to three Parts, of all trees of up to five elements with all ways of tagging them.
func TestAllRows(t *testing.T) {
	shapes := []int{1, 1, 2, 5, 14}
	for size := 1; size <= 5; size++ {
		for tags := range 1 << size {
			all := shaped(t, size, tags)
			if len(all) != shapes[size-1] {
				t.Fatalf("%d trees of %d", len(all), size)
			}
			for i, o := range all {
				for parts := 1; parts <= 3; parts++ {
					for _, c := range rows(parts) {
						meant(t, fmt.Sprintf("tree %d of %d, tags %b", i, size, tags), o, c)
					}
				}
			}
		}
	}
}

// TestFourParts: all complex selectors of four Parts, of all trees of six elements, each of them tagged in one way.
func TestFourParts(t *testing.T) {
	four := rows(4)
	for i := range shaped(t, 6, 0) {
		o := shaped(t, 6, i*37%64)[i]
		for _, c := range four {
			meant(t, fmt.Sprint("tree ", i), o, c)
		}
	}
}

// TestFirstOneDoesNotLeadOn: several elements might stand for a Part, and the nearest one is not the one.
func TestFirstOneDoesNotLeadOn(t *testing.T) {
	// 1 r, 2 a, 3 b, 4 c, 5 b, 6 d: each in the one ahead.
	chain := begin(t, "r").under(1, "a").under(2, "b").under(3, "c").under(4, "b").under(5, "d")
	// Kids of 1 r: 2 a, 3 b, 4 c, 5 b, 6 d.
	line := begin(t, "r").under(1, "a").under(1, "b").under(1, "c").under(1, "b").under(1, "d")
	for _, w := range []struct {
		o    one
		s    string
		want string
	}{
		{chain, "a > b d", "[6]"},
		{chain, "a > b > d", "[]"},
		{chain, "r > a > b c d", "[6]"},
		{chain, "c > b d", "[6]"},
		{chain, "r > b d", "[]"},
		{chain, "a > b b > d", "[6]"},
		{chain, "b b d", "[6]"},
		{chain, "b b b d", "[]"},
		{chain, "* * * * * d", "[6]"},
		{chain, "* * * * * * d", "[]"},
		{chain, "r > * * > b", "[5]"},
		{line, "a + b ~ d", "[6]"},
		{line, "a + b + d", "[]"},
		{line, "c + b ~ d", "[6]"},
		{line, "d + b ~ d", "[]"},
		{line, "a + b ~ b + d", "[6]"},
		{line, "b ~ b ~ d", "[6]"},
		{line, "b ~ b ~ b ~ d", "[]"},
		{line, "* ~ * ~ * ~ * ~ d", "[6]"},
		{line, "* ~ * ~ * ~ * ~ * ~ d", "[]"},
		{line, "r > b ~ d", "[6]"},
		{line, "r > a + b ~ * + b", "[5]"},
	} {
		l := sel(t, w.s)
		is(t, w.s, whom(w.o.doc, l), w.want)
		agree(t, w.s, w.o.doc, w.o.says, l)
	}
	// 1 r with 2 x and 3 a; 3 with 4 p and 5 a; 5 with 6 q and 7 d.
	both := begin(t, "r").under(1, "x").under(1, "a").under(3, "p").under(3, "a").under(5, "q").under(5, "d")
	for s, want := range map[string]string{
		"x + a d": "[7]", "p + a d": "[7]", "q + a d": "[]", "x ~ a > a d": "[7]", "x + a > a > a d": "[]", "x ~ a > a > d": "[7]", "x + a > p + a > q + d": "[7]", "x + a q ~ d": "[7]", "p ~ a > q + d": "[7]", "x ~ * *": "[4 5 6 7]", "r > x ~ a a > d": "[7]", "r > p ~ a d": "[]",
	} {
		l := sel(t, s)
		is(t, s, whom(both.doc, l), want)
		agree(t, s, both.doc, both.says, l)
	}
}

// TestWithinParts: Lists within stand at each Part, and go leftward from there on their own.
func TestWithinParts(t *testing.T) {
	o := some(t)
	for s, want := range map[string]string{
		":is(a > b) > c": "[5 6 7]", ":is(b + e) c": "[9]", ":not(b + b) ~ e": "[4]", ":not(b) ~ e": "[]", ":is(c + c) + c": "[7]", ":not(c + c) + c": "[6]", ":is(:is(a b) c) > :is(d, e)": "[8]", ":not(:not(b) *) d": "[8]", ":not(:not(b) *):not(a) d": "[]", ":is(:is(:is(a) b) c) d": "[8]", "a :is(b :is(c d))": "[8]", ":is(c:is(c ~ c)) ~ c": "[7]", ":not(:is(a, b) > :not(c)) d": "[8]",
	} {
		l := sel(t, s)
		is(t, s, whom(o.doc, l), want)
		agree(t, s, o.doc, o.says, l)
	}
}

// TestByChance: lists of all sorts, of trees behind calls of all sorts; older trees are asked again behind all that was made of them.
func TestByChance(t *testing.T) {
	yes, all := 0, 0
	for seed := range int64(60) {
		m := newMaker(seed)
		o := m.tree(t, 20, 12)
		type asked struct {
			o one
			l []api.Complex
		}
		var old []asked
		for i := range 25 {
			o = m.step(o, 12)
			l := m.list(2, 4)
			agree(t, fmt.Sprintf("seed %d, %d", seed, i), o.doc, o.says, l)
			old = append(old, asked{o, l})
			yes, all = yes+len(whom(o.doc, l)), all+o.doc.Len()
		}
		for i, a := range old {
			agree(t, fmt.Sprintf("seed %d, %d again", seed, i), a.o.doc, a.o.says, a.l)
		}
	}
	if yes < all/6 || yes > all*5/6 {
		t.Errorf("%d of %d are meant: that tells little", yes, all)
	}
}

// TestBigTreesByChance: trees of many elements, and long rows of Parts.
func TestBigTreesByChance(t *testing.T) {
	for seed := range int64(15) {
		m := newMaker(1000 + seed)
		o := m.tree(t, 150, 40)
		for i := range 12 {
			l := m.list(3, 6)
			agree(t, fmt.Sprintf("seed %d, %d", seed, i), o.doc, o.says, l)
		}
	}
}

// TestChanged: whom a selector means in a tree behind each call that changes, and in the old one.
func TestChanged(t *testing.T) {
	o := some(t)
	l := sel(t, "b > .x, b + e, .y d, :nth-child(2):empty")
	check := func(what string, n one, want string) {
		t.Helper()
		is(t, what, whom(n.doc, l), want)
		agree(t, what, n.doc, n.says, l)
		is(t, what+", the old one", whom(o.doc, l), "[3 4 6 8]")
	}
	check("as it was", o, "[3 4 6 8]")
	check("inserted between", o.insert(1, 2, "c"), "[3 6 8]")
	check("inserted first", o.insert(1, 0, "b"), "[4 6 8]")
	check("removed", o.remove(3), "[4 6 8]")
	check("removed with all below", o.remove(2), "[4]")
	check("moved away", o.move(6, 1, 3), "[3 4 7 8]")
	check("moved below another one", o.move(2, 4, 0), "[4 6 8 9]")
	check("moved to its place", o.move(3, 1, 1), "[3 4 6 8]")
	check("an attribute set", o.set(5, "class", "w x"), "[3 4 5 6 8]")
	check("another value", o.set(6, "class", "xy"), "[3 4]")
	check("an attribute dropped", o.drop(6, "class"), "[3 4]")
}
