package query

import (
	"fmt"
	"slices"
	"testing"

	"gouache/api"
	"gouache/dom"
	"gouache/sheet"
)

// TestExample: the chapter's.
func TestExample(t *testing.T) {
	d := begin(t, "a").under(1, "b").under(1, "b").doc
	is(t, "All", All(d, 1, sel(t, "b")), "[2 3]")
	is(t, "First", First(d, 1, sel(t, "b")), 2)
	is(t, "Closest", []int{Closest(d, 2, sel(t, "a")), Closest(d, 3, sel(t, "a"))}, "[1 1]")
	is(t, "Each", slices.Collect(Each(d, 1, sel(t, "b"))), "[2 3]")
}

// TestSome: the tree of these tests is as it is drawn.
func TestSome(t *testing.T) {
	d := some(t)
	is(t, "order", order(d, 1), someOrder)
	is(t, "up", fmt.Sprint(up(d, 8), up(d, 9), up(d, 1), up(d, 11)), "[6 2 1] [4 1] [] []")
}

// TestAll: of the root, by selectors of all sorts.
func TestAll(t *testing.T) {
	d := some(t)
	for s, want := range map[string]string{
		"a":                      "[]",
		"b":                      "[2 6 3]",
		"c":                      "[5 10 4]",
		"*":                      "[7 2 5 6 8 10 3 4 9]",
		"q":                      "[]",
		"#i":                     "[7 3]",
		"#j":                     "[8]",
		"#k":                     "[]",
		".x":                     "[2 5 9]",
		".y":                     "[5 8 3]",
		".x.y":                   "[5]",
		"b.x":                    "[2]",
		"b#i.y":                  "[3]",
		"[class]":                "[2 5 8 3 9]",
		"[id=i]":                 "[7 3]",
		"[k~=w]":                 "[5]",
		"[k|=v]":                 "[]",
		"[k^=v]":                 "[5]",
		"[k$=w]":                 "[5]",
		"[k*=' ']":               "[5]",
		"[id='j']":               "[8]",
		":root":                  "[]",
		":empty":                 "[7 5 8 10 3 9]",
		":first-child":           "[7 5 8 9]",
		":last-child":            "[8 10 4 9]",
		":only-child":            "[8 9]",
		":nth-child(2)":          "[2 6]",
		":nth-child(2n+1)":       "[7 5 8 10 3 9]",
		":nth-last-child(2)":     "[6 3]",
		":not(b, c)":             "[7 8 9]",
		":is(b, d)":              "[2 6 8 3]",
		":where(.x, #j)":         "[2 5 8 9]",
		":not(a *)":              "[]",
		":is(b > *)":             "[5 6 8 10]",
		":not(b *, b)":           "[7 4 9]",
		"a b":                    "[2 6 3]",
		"a > b":                  "[2 3]",
		"b b":                    "[6]",
		"b > b":                  "[6]",
		"b c":                    "[5 10]",
		"c > e":                  "[9]",
		"a e":                    "[7 9]",
		"a > e":                  "[7]",
		"e + b":                  "[2]",
		"b + b":                  "[3]",
		"b + c":                  "[10 4]",
		"c ~ c":                  "[10]",
		"e ~ c":                  "[4]",
		"e ~ *":                  "[2 3 4]",
		".x > .y":                "[5]",
		".x .y":                  "[5 8]",
		"#i + .x":                "[2]",
		"#i ~ c e":               "[9]",
		"#i ~ c > .x":            "[9]",
		"#i + .x > b > #j":       "[8]",
		"a > #i ~ b c + b > d":   "[8]",
		"a > #i ~ b e + b > d":   "[]",
		"a #i + b > .x + b .y":   "[8]",
		"#j a":                   "[]",
		"a a":                    "[]",
		"q b":                    "[]",
		"q > b":                  "[]",
		"q ~ b":                  "[]",
		"q + b":                  "[]",
		"b, c":                   "[2 5 6 10 3 4]",
		"c, b":                   "[2 5 6 10 3 4]",
		"e, #i, .x, e":           "[7 2 5 3 9]",
		"q, r, s":                "[]",
		"q b, #i + b, .z > *":    "[2]",
		"q b, q > *, q + c, q":   "[]",
		":root > :nth-child(3)":  "[3]",
		":root > * > *":          "[5 6 10 9]",
		":root > * > * > *":      "[8]",
		":root * * * *":          "[]",
		":not(:is(b, c) > *).y":  "[3]",
		":is(q b, a > c) e, q d": "[9]",
	} {
		l := sel(t, s)
		is(t, s, All(d, 1, l), want)
		agree(t, s, d, l)
	}
}

// TestAllOfEach: those below an element, not itself; what is above it counts.
func TestAllOfEach(t *testing.T) {
	d := some(t)
	for _, w := range []struct {
		id      int
		s, want string
	}{
		{1, "*", "[7 2 5 6 8 10 3 4 9]"},
		{2, "*", "[5 6 8 10]"},
		{3, "*", "[]"},
		{4, "*", "[9]"},
		{6, "*", "[8]"},
		{7, "*", "[]"},
		{9, "*", "[]"},
		{2, "b", "[6]"},
		{6, "b", "[]"},
		{2, "a b", "[6]"},
		{2, "a > b > b", "[6]"},
		{2, "e + .x b > d", "[8]"},
		{6, "a d", "[8]"},
		{6, "a > b.x d", "[8]"},
		{6, "b > b > d", "[8]"},
		{6, "#i + .x > c + b > d", "[8]"},
		{6, "q d", "[]"},
		{4, "b ~ c > e", "[9]"},
		{4, "#i e", "[]"},
		{4, ":root > * > e", "[9]"},
		{2, ":root", "[]"},
		{2, ":nth-child(2), a", "[6]"},
	} {
		l := sel(t, w.s)
		what := fmt.Sprintf("%s below %d", w.s, w.id)
		is(t, what, All(d, w.id, l), w.want)
		is(t, what+", Each", slices.Collect(Each(d, w.id, l)), w.want)
		is(t, what+", First", First(d, w.id, l), oFirst(All(d, w.id, l)))
	}
}

// TestFirst: the first in walk's order, not of the list, and not the least number; 0 of none.
func TestFirst(t *testing.T) {
	d := some(t)
	for _, w := range []struct {
		id   int
		s    string
		want int
	}{
		{1, "*", 7}, {1, "b", 2}, {1, "c", 5}, {1, "e", 7}, {1, "d", 8}, {1, "a", 0}, {1, "q", 0},
		{1, "c, e", 7}, {1, "d, b", 2}, {1, "#j, #i", 7}, {1, ".y", 5}, {1, "e.x", 9}, {1, "b b", 6}, {1, "c > *", 9},
		{2, "*", 5}, {2, "b", 6}, {2, ".x", 5}, {2, "a", 0}, {6, "*", 8}, {6, "b", 0}, {8, "*", 0}, {3, "*", 0}, {4, "*", 9},
	} {
		is(t, fmt.Sprintf("%s below %d", w.s, w.id), First(d, w.id, sel(t, w.s)), w.want)
	}
}

// TestClosest: begins with the element itself, and ends with the root; 0 of none.
func TestClosest(t *testing.T) {
	d := some(t)
	for _, w := range []struct {
		id   int
		s    string
		want int
	}{
		{1, "a", 1}, {1, "*", 1}, {1, ":root", 1}, {1, "b", 0}, {1, "b, a", 1},
		{8, "*", 8}, {8, "d", 8}, {8, "b", 6}, {8, ".x", 2}, {8, "a", 1}, {8, ":root", 1}, {8, "c", 0}, {8, "e", 0}, {8, "#i", 0},
		{8, "a, b.x", 2}, {8, "b.x, a, b", 6}, {8, "a, d", 8}, {8, "b > b", 6}, {8, "b b", 6}, {8, "a > *", 2}, {8, "e + *", 2}, {8, "c + b", 6}, {8, "#i ~ .x", 2},
		{8, ":not(d)", 6}, {8, ":not(b, d)", 1}, {8, ":is(a, q)", 1}, {8, ":nth-child(1)", 8}, {8, ":nth-child(2)", 6}, {8, ":nth-last-child(3)", 2},
		{9, "c", 4}, {9, "b ~ c", 4}, {9, "a > c:last-child", 4}, {9, "b", 0}, {9, "q, r", 0},
		{6, "d", 0}, {2, "b", 2}, {2, "c", 0}, {6, ":empty", 0}, {9, ":empty", 9},
	} {
		is(t, fmt.Sprintf("%s from %d", w.s, w.id), Closest(d, w.id, sel(t, w.s)), w.want)
	}
}

// TestNoSelectors: an empty list means nobody.
func TestNoSelectors(t *testing.T) {
	d := some(t)
	for _, l := range [][]api.Complex{nil, {}, sel(t, "*")[:0]} {
		for id := -1; id <= d.Next()+1; id++ {
			is(t, "nobody", fmt.Sprint(All(d, id, l), First(d, id, l), Closest(d, id, l), slices.Collect(Each(d, id, l))), "[] 0 0 []")
			is(t, "no rule", fmt.Sprint(Matched(d, id, placed(l, l), nil)), "[]")
		}
		agree(t, "no selectors", d, l)
	}
}

// TestOneElement: a root alone.
func TestOneElement(t *testing.T) {
	d := begin(t, "a").doc
	for _, s := range []string{"a", "*", ":root", ":empty", "b", "a, b", "a a", ":not(b)", "q > a"} {
		agree(t, s, d, sel(t, s))
	}
	is(t, "the root", []int{len(All(d, 1, sel(t, "a"))), First(d, 1, sel(t, "a")), Closest(d, 1, sel(t, "a"))}, "[0 0 1]")
}

// TestTreesBehindCalls: each tree is asked as it is, and an older one as it was.
func TestTreesBehindCalls(t *testing.T) {
	l := sel(t, "a > b > c, .x d")
	p := page{t, some(t)}
	is(t, "as it was", All(p.doc, 1, l), "[5 8 10]")
	is(t, "moved", All(p.move(6, 4, 1).doc, 1, l), "[5 10]")
	is(t, "moved back", All(p.move(6, 4, 1).move(6, 2, 0).doc, 1, l), "[8 5 10]")
	is(t, "removed", All(p.remove(6).doc, 1, l), "[5 10]")
	is(t, "one more", All(p.under(3, "c").doc, 1, l), "[5 8 10 11]")
	is(t, "another class", All(p.set(2, "class", "z").doc, 1, l), "[5 10]")
	is(t, "a class of the root", All(p.set(2, "class", "z").set(1, "class", "y x").doc, 1, l), "[5 8 10]")
	is(t, "the older one", All(p.doc, 1, l), "[5 8 10]")
}

// TestMatched: rules of one and of several selectors.
func TestMatched(t *testing.T) {
	d := some(t)
	l := rules(t, "a", "b, c", ".x", "#i", "*", "q b, a > b, b", "b b", "e ~ .y, #j", ":not(b)", ":nth-child(2)", "[k]", "a b > *, a b > *", "q *", "b + c, b + b", "a #i")
	for id, want := range map[int]string{
		1:  "[0 4 8]",
		2:  "[1 2 4 5 9]",
		3:  "[1 3 4 5 7 13 14]",
		4:  "[1 4 8 13]",
		5:  "[1 2 4 8 10 11]",
		6:  "[1 4 5 6 9 11]",
		7:  "[3 4 8 14]",
		8:  "[4 7 8 11]",
		9:  "[2 4 8]",
		10: "[1 4 8 11 13]",
		11: "[]",
	} {
		is(t, fmt.Sprint("rules of ", id), Matched(d, id, l, nil), want)
	}
	matches(t, "some rules", d, l)
}

// TestMatchedPlaces: a place is where a rule stands in the list; the same rule at several places counts at each.
func TestMatchedPlaces(t *testing.T) {
	d := some(t)
	few := rules(t, "b", "c", "b, .x", "*")
	l := []sheet.Placed{few[1], few[0], few[0], few[1], few[2], few[3], few[0]}
	is(t, "of 2", Matched(d, 2, l, nil), "[1 2 4 5 6]")
	matches(t, "the same many times", d, l)
	slices.Reverse(l)
	is(t, "the other way round", Matched(d, 2, l, nil), "[0 1 2 4 5]")
	matches(t, "the other way round", d, l)
}

// TestMatchedNoRules: of no rules, and of rules without selectors.
func TestMatchedNoRules(t *testing.T) {
	d := some(t)
	for _, l := range [][]sheet.Placed{nil, {}, rules(t, "*")[:0], placed(nil), placed(nil, []api.Complex{}, nil)} {
		is(t, "told", matches(t, "no rules", d, l), 0)
	}
	is(t, "told", matches(t, "some without selectors", d, placed(nil, sel(t, "c"), nil, sel(t, "*"))), 3+d.Len())
}

// TestMatchedOfSheets: rules as Sheets tell them.
func TestMatchedOfSheets(t *testing.T) {
	s := sheet.New()
	for i, text := range []string{"a{} b > b,.x{c:d} 1{} *{}", "", "#i{} e ~ .y{}", "b c{} q,#j{e:f!important}"} {
		var err api.Errno
		if s, _, err = s.Add(i%3+1, text); err != api.OK {
			t.Fatal(err)
		}
	}
	d := some(t)
	l := s.All()
	tell := func(l []sheet.Placed) string {
		return fmt.Sprint(Matched(d, 1, l, nil), Matched(d, 3, l, nil), Matched(d, 5, l, nil), Matched(d, 8, l, nil))
	}
	is(t, "rules", tell(l), "[0 2] [2 3 4] [1 2 5] [2 6]")
	matches(t, "sheets", d, l)
	less, _ := s.Drop(1)
	is(t, "without the first", tell(less.All()), "[] [0 1] [2] [3]")
	matches(t, "without the first", d, less.All())
}

// whole: all that is asked of a tree, by one list.
func whole(d *dom.Doc, id int, l []api.Complex) string {
	return fmt.Sprint(All(d, id, l), First(d, id, l), Closest(d, id, l), slices.Collect(Each(d, id, l)), Matched(d, id, placed(l), nil))
}
