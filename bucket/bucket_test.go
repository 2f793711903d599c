package bucket

import (
	"fmt"
	"slices"
	"strings"
	"testing"

	"gouache/api"
	"gouache/sheet"
)

// TestExample: the chapter's.
func TestExample(t *testing.T) {
	l := sel(t, "a.b, c, *:not(a)")
	for i, want := range []string{"[2 b]", "[1 c]", "[0 ]"} {
		kind, name := Last(l[i])
		is(t, fmt.Sprint("Last of ", i), []any{kind, name}, want)
	}
	x := Make(rules(t, "a.b, c", "*:not(a)"))
	is(t, "Len and Sizes", []int{x.Len(), x.Size(api.Class, "b"), x.Size(api.Tag, "c"), x.Size(api.Tag, "a"), x.Size(0, "")}, "[2 1 1 0 1]")
}

// TestLast: what stands in a text's last part.
func TestLast(t *testing.T) {
	for s, want := range map[string]string{
		"a":                    "<a",
		"A":                    "<a",
		".b":                   ".b",
		".B":                   ".B",
		"#c":                   "#c",
		"a.b":                  ".b",
		"a#c":                  "#c",
		"a.b#c":                "#c",
		"a#c.b":                "#c",
		".b#c":                 "#c",
		"#c.b":                 "#c",
		".b.d":                 ".b",
		".d.b":                 ".d",
		"#c#e":                 "#c",
		"#e#c":                 "#e",
		"a.b.d#c#e.f":          "#c",
		"*":                    "",
		"*.b":                  ".b",
		"*#c":                  "#c",
		"*.b#c":                "#c",
		"*:root":               "",
		"#c .b a":              "<a",
		"#c .b > *":            "",
		"#c + .b":              ".b",
		"a ~ #c":               "#c",
		"#c.b a:root":          "<a",
		"#c :empty":            "",
		":not(#c)":             "",
		":not(a, .b)":          "",
		":is(#c)":              "",
		":where(.b)":           "",
		"[id=c]":               "",
		"[class~=b]":           "",
		"[id]":                 "",
		":root":                "",
		":empty":               "",
		":first-child":         "",
		":only-child":          "",
		":nth-child(2n)":       "",
		":nth-last-child(odd)": "",
		":not(#c).b":           ".b",
		":is(#c)[id=d].b#e":    "#e",
		"a:not(.b)":            "<a",
		"a[id=c]:is(#c)":       "<a",
		":root.b:empty":        ".b",
		`#\31 `:                "#1",
		`.\2a `:                ".*",
		`#\2a .b`:              "#*",
		`.\20 b`:               ". b",
		"é.ß":                  ".ß",
	} {
		l := sel(t, s)
		is(t, s, len(l), 1)
		lastIs(t, s, l[0], want)
		is(t, "the oracle of "+s, oLast(l[0]), want)
	}
}

// orders: all orders of a list.
func orders(l []api.Simple) [][]api.Simple {
	if len(l) == 0 {
		return [][]api.Simple{nil}
	}
	var out [][]api.Simple
	for i, s := range l {
		for _, rest := range orders(slices.Delete(slices.Clone(l), i, i+1)) {
			out = append(out, append([]api.Simple{s}, rest...))
		}
	}
	return out
}

// TestLastInEachOrder: an ID goes ahead of a Class, and that ahead of a Tag, wherever they stand.
func TestLastInEachOrder(t *testing.T) {
	other := api.Simple{Kind: api.Not, Name: "n", List: sel(t, "#n")}
	for _, w := range []struct {
		want string
		l    []api.Simple
	}{
		{"#c", []api.Simple{tag("a"), class("b"), ident("c")}},
		{"#c", []api.Simple{tag("a"), class("b"), ident("c"), other, tag("*")}},
		{".b", []api.Simple{tag("a"), class("b"), other, {Kind: api.AttrSel, Name: "id", Value: "c"}}},
		{"<a", []api.Simple{tag("a"), other, tag("*"), {Kind: api.Root, Name: "r"}}},
		{"#c", []api.Simple{tag("a"), ident("c")}},
		{"#c", []api.Simple{class("c"), ident("c"), tag("c")}},
		{"#", []api.Simple{tag("a"), class("b"), ident("")}},
		{".", []api.Simple{tag("a"), class(""), other}},
		{"<", []api.Simple{tag(""), tag("*"), other}},
		{"", []api.Simple{tag("*"), other, {Kind: api.Nth, Name: "n", A: 1}, {}}},
	} {
		all := orders(w.l)
		for _, l := range all {
			lastIs(t, "in order", part(l...), w.want)
		}
		is(t, "orders", len(all), []int{1, 1, 2, 6, 24, 120}[len(w.l)])
	}
}

// TestLastOfSeveral: of several of one Kind the first one counts; * is no name of a Tag, but may be one of a Class or an ID.
func TestLastOfSeveral(t *testing.T) {
	for _, w := range []struct {
		c    api.Complex
		want string
	}{
		{part(tag("a"), tag("b")), "<a"},
		{part(tag("b"), tag("a")), "<b"},
		{part(tag("*"), tag("a")), "<a"},
		{part(tag("a"), tag("*")), "<a"},
		{part(tag("*"), tag("*")), ""},
		{part(tag(""), tag("a")), "<"},
		{part(tag("a"), tag("")), "<a"},
		{part(tag("**")), "<**"},
		{part(class("*"), class("a")), ".*"},
		{part(ident("*"), ident("a")), "#*"},
		{part(class(""), class("a")), "."},
		{part(ident(""), ident("a"), class("b")), "#"},
		{part(class("b"), ident("a"), class("c"), ident("d")), "#a"},
	} {
		lastIs(t, "several", w.c, w.want)
	}
}

// TestLastOfNothing: of no Parts, and of a last part of nothing, whatever stands ahead of it.
func TestLastOfNothing(t *testing.T) {
	all := []api.Simple{tag("a"), class("b"), ident("c")}
	for _, c := range []api.Complex{
		{},
		{Parts: [][]api.Simple{}},
		{Combs: []int{api.Child}},
		{Parts: [][]api.Simple{nil}},
		{Parts: [][]api.Simple{{}}},
		{Parts: [][]api.Simple{all, nil}, Combs: []int{api.Child}},
		{Parts: [][]api.Simple{all, all, {}}, Combs: []int{1, 2}},
		part(api.Simple{}),
	} {
		kind, name := Last(c)
		is(t, fmt.Sprint(c), []any{kind, name}, "[0 ]")
	}
}

// TestLastOfAnyCombs: Combs are not looked at, be they none or too many.
func TestLastOfAnyCombs(t *testing.T) {
	for combs := range 5 {
		for parts := range 4 {
			var c api.Complex
			for i := range parts {
				c.Parts = append(c.Parts, []api.Simple{tag("t"), class(fmt.Sprint("p", i))})
			}
			for i := range combs {
				c.Combs = append(c.Combs, []int{0, 1, 5, -1}[i])
			}
			want := ""
			if parts > 0 {
				want = fmt.Sprint(".p", parts-1)
			}
			lastIs(t, fmt.Sprintf("%d parts, %d combs", parts, combs), c, want)
		}
	}
}

// someSimples: those of which all parts are made.
func someSimples(t *testing.T) []api.Simple {
	return []api.Simple{tag("*"), tag("a"), tag("b"), class("x"), class("y"), ident("x"), ident("y"), {Kind: api.Not, Name: "a", List: sel(t, "#x")}, {Kind: api.AttrSel, Name: "id", Op: api.Equal, Value: "x"}, {Kind: 12, Name: "x"}}
}

// allParts: all lists of so many of some.
func allParts(some []api.Simple, many int) [][]api.Simple {
	out := [][]api.Simple{nil}
	for range many {
		var next [][]api.Simple
		for _, l := range out {
			for _, s := range some {
				next = append(next, append(slices.Clone(l), s))
			}
		}
		out = next
	}
	return out
}

// TestLastOfAll: all parts of up to five of ten simple selectors, alone and behind another one.
func TestLastOfAll(t *testing.T) {
	ahead := []api.Simple{ident("q"), class("q"), tag("q")}
	for many := range 6 {
		for _, l := range allParts(someSimples(t), many) {
			c := part(l...)
			lastIs(t, "alone", c, oLast(c))
			c = api.Complex{Parts: [][]api.Simple{ahead, l}, Combs: []int{1}}
			lastIs(t, "behind another one", c, oLast(c))
		}
	}
}

// TestSize: rules of one and of several selectors.
func TestSize(t *testing.T) {
	l := rules(t, "a.b, c", "c", ".b.d, .b#e, .b", "#e, #e .x, x > #e", "*, :not(a), :root", "a, .a, #a, [a]", "*.b, a *", "é")
	x := Make(l)
	is(t, "Len", x.Len(), 8)
	for _, w := range []struct {
		kind int
		name string
		want int
	}{
		{api.Class, "b", 3}, {api.Class, "d", 0}, {api.Class, "x", 1}, {api.Class, "a", 1}, {api.Class, "e", 0}, {api.Class, "", 0},
		{api.Tag, "c", 2}, {api.Tag, "a", 1}, {api.Tag, "x", 0}, {api.Tag, "*", 0}, {api.Tag, "", 0}, {api.Tag, "é", 1},
		{api.ID, "e", 2}, {api.ID, "a", 1}, {api.ID, "b", 0}, {api.ID, "", 0},
		{0, "", 3}, {0, "a", 0}, {0, "*", 0}, {0, "b", 0},
	} {
		is(t, fmt.Sprintf("Size(%d, %q)", w.kind, w.name), x.Size(w.kind, w.name), w.want)
	}
	counts(t, "some rules", x, l)
}

// TestSizeOfEmptyNames: each Kind's empty name is a bucket of its own, and none is that of kind 0.
func TestSizeOfEmptyNames(t *testing.T) {
	x := Make(placed([]api.Complex{part(ident(""))}, []api.Complex{part(class("")), part(class("")), part(ident(""))}, []api.Complex{part(tag(""))}, []api.Complex{part()}, []api.Complex{{}}, []api.Complex{part(tag("*")), {}}, []api.Complex{part(ident("")), {}, part(tag(""))}))
	is(t, "ID, Class, Tag, 0", []int{x.Size(api.ID, ""), x.Size(api.Class, ""), x.Size(api.Tag, ""), x.Size(0, "")}, "[3 1 2 4]")
	is(t, "Len", x.Len(), 7)
}

// TestOnce: a rule is in one bucket once, however its selectors stand, and counts once.
func TestOnce(t *testing.T) {
	for _, s := range []string{".x, .x", ".x, a.x", ".x, b, .x", "b, .x, .y, .x, b, .x", "*, .x, :root, .x, *"} {
		l := rules(t, s, ".x", s, "b", s)
		x := Make(l)
		is(t, s, x.Size(api.Class, "x"), 4)
		counts(t, s, x, l)
		o := begin(t, "b").set(1, "class", "x y")
		want := []int{0, 1, 2, 3, 4}
		is(t, s, x.Pick(o.doc, 1), want)
		picks(t, s, x, l, o)
	}
}

// TestNoSelectors: a rule without selectors counts, and is in no bucket.
func TestNoSelectors(t *testing.T) {
	l := placed(nil, sel(t, "a"), []api.Complex{}, sel(t, "*"), nil)
	x := Make(l)
	is(t, "Len", x.Len(), 5)
	counts(t, "some of none", x, l)
	is(t, "Pick", x.Pick(begin(t, "a").doc, 1), "[1 3]")
	is(t, "Pick of another tag", x.Pick(begin(t, "b").doc, 1), "[3]")
}

// TestNoRules: an Index over none.
func TestNoRules(t *testing.T) {
	o := begin(t, "a").set(1, "id", "x").set(1, "class", "x y")
	for what, l := range map[string][]sheet.Placed{"nil": nil, "empty": {}, "cut": rules(t, "a")[:0]} {
		x := Make(l)
		if x == nil {
			t.Fatalf("%s: no Index", what)
		}
		counts(t, what, x, nil)
		is(t, what, len(x.Pick(o.doc, 1)), 0)
	}
}

// pickRules: a rule for each sort of bucket.
func pickRules(t *testing.T) []sheet.Placed {
	l := rules(t, "#i", ".x", "a", "*", ".y", "b", "#j", "a.x, b.y", ".z#i", ":not(a)", "a #i, a .x, a", "q .y, q #j, q b, q [k]", "#x", ".i", "x", ".a")
	return append(l, placed([]api.Complex{part(ident(""))}, []api.Complex{part(class(""))}, []api.Complex{part(tag(""))}, []api.Complex{{}}, []api.Complex{part(class("x y"))}, []api.Complex{part(ident("x y"))})...)
}

// TestPick: by an element's tag, id and classes.
func TestPick(t *testing.T) {
	l := pickRules(t)
	x := Make(l)
	for _, w := range []struct {
		tag, attrs, want string // attributes: a name, a sign =, a value, with | between
	}{
		{"a", "", "[2 3 9 10 11 19]"},
		{"c", "", "[3 9 11 19]"},
		{"b", "k=x", "[3 5 9 11 19]"},
		{"c", "id=i", "[0 3 8 9 10 11 19]"},
		{"c", "id=j", "[3 6 9 11 19]"},
		{"c", "id=", "[3 9 11 16 19]"},
		{"c", "id= ", "[3 9 11 19]"},
		{"c", "id=x y", "[3 9 11 19 21]"},
		{"c", "id=I", "[3 9 11 19]"},
		{"c", "class=", "[3 9 11 19]"},
		{"c", "class= \t\n ", "[3 9 11 19]"},
		{"c", "class=x", "[1 3 7 9 10 11 19]"},
		{"c", "class=y", "[3 4 7 9 11 19]"},
		{"c", "class=x y", "[1 3 4 7 9 10 11 19]"},
		{"c", "class=y\tx\n", "[1 3 4 7 9 10 11 19]"},
		{"c", "class=\n\ny \t x y  x", "[1 3 4 7 9 10 11 19]"},
		{"c", "class=x\u00a0y", "[3 9 11 19]"},
		{"c", "class=x\ry", "[3 9 11 19]"},
		{"c", "class=X", "[3 9 11 19]"},
		{"c", "class=a i", "[3 9 11 13 15 19]"},
		{"x", "id=x|class=x", "[1 3 7 9 10 11 12 14 19]"},
		{"a", "id=i|class=i a", "[0 2 3 8 9 10 11 13 15 19]"},
		{"b", "id=j|class=x y x|k=i", "[1 3 4 5 6 7 9 10 11 19]"},
		{"c", "ids=i|clas=x|classes=y|i=i", "[3 9 11 19]"},
	} {
		o := begin(t, w.tag)
		for _, attr := range strings.Split(w.attrs, "|") {
			name, value, ok := strings.Cut(attr, "=")
			if ok {
				o = o.set(1, name, value)
			}
		}
		what := fmt.Sprintf("%s %q", w.tag, w.attrs)
		is(t, what, x.Pick(o.doc, 1), w.want)
		picks(t, what, x, l, o)
	}
}

// TestPickEachElement: each has its own, and others when it is changed.
func TestPickEachElement(t *testing.T) {
	l := rules(t, "a", "b", ".x", "#i", "*")
	x := Make(l)
	o := begin(t, "a").under(1, "b").under(2, "a").set(2, "class", "x").set(3, "id", "i")
	tell := func(o one) string { return fmt.Sprint(x.Pick(o.doc, 1), x.Pick(o.doc, 2), x.Pick(o.doc, 3)) }
	is(t, "three", tell(o), "[0 4] [1 2 4] [0 3 4]")
	is(t, "another id", tell(o.set(3, "id", "k").set(1, "id", "i")), "[0 3 4] [1 2 4] [0 4]")
	is(t, "no class", tell(o.drop(2, "class")), "[0 4] [1 4] [0 3 4]")
	is(t, "moved", tell(o.move(3, 1)), "[0 4] [1 2 4] [0 3 4]")
	is(t, "removed", tell(o.remove(2)), "[0 4] [] []")
	is(t, "as it was", tell(o), "[0 4] [1 2 4] [0 3 4]")
}

// TestPlaces: a place is where a rule stands in the list, not its Index; Sheet and Origin count for nothing.
func TestPlaces(t *testing.T) {
	l := rules(t, "a", ".x", "b, a", "*")
	for i := range l {
		l[i].Sheet, l[i].Origin, l[i].Index = 9-i, i-7, 100-i
	}
	o := begin(t, "a").set(1, "class", "x")
	is(t, "places", Make(l).Pick(o.doc, 1), "[0 1 2 3]")
	slices.Reverse(l)
	is(t, "the other way round", Make(l[:3]).Pick(o.doc, 1), "[0 1 2]")
	is(t, "the same one many times", Make([]sheet.Placed{l[1], l[3], l[1], l[3]}).Pick(begin(t, "b").doc, 1), "[0 2]")
}

// TestSheets: rules of several sheets, as All tells them.
func TestSheets(t *testing.T) {
	s := sheet.New()
	for i, text := range []string{"a{} .x,#i{b:c} 1{} *{}", "", "b,a{} .x.y{} .y a{}", "#i,.y{}"} {
		var err api.Errno
		if s, _, err = s.Add(i%3+1, text); err != api.OK {
			t.Fatal(err)
		}
	}
	l := s.All()
	x := Make(l)
	is(t, "Len", x.Len(), 7)
	is(t, "Sizes", []int{x.Size(api.Tag, "a"), x.Size(api.Class, "x"), x.Size(api.ID, "i"), x.Size(0, ""), x.Size(api.Class, "y")}, "[3 2 2 1 1]")
	o := begin(t, "a").under(1, "c").set(2, "class", "x").under(1, "b").set(3, "id", "i")
	is(t, "Pick", fmt.Sprint(x.Pick(o.doc, 1), x.Pick(o.doc, 2), x.Pick(o.doc, 3)), "[0 2 3 5] [1 2 4] [1 2 3 6]")
	counts(t, "sheets", x, l)
	picks(t, "sheets", x, l, o)
	less, _ := s.Drop(1)
	is(t, "without the first", Make(less.All()).Pick(o.doc, 1), "[0 2]")
}
