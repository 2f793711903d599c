package bucket

import (
	"fmt"
	"math"
	"strings"
	"testing"

	"gouache/api"
	"gouache/dom"
	"gouache/sheet"
)

var farNumbers = []int{math.MinInt, math.MinInt + 1, -1 << 20, -2, -1, 0, 1 << 16, 1<<20 - 1, 1 << 20, 1<<20 + 1, 1<<20 + 2, 1<<32 + 1, 1<<32 + 2, math.MaxInt - 1, math.MaxInt}

// some: an element with a tag, an id and classes.
func some(t *testing.T) one {
	t.Helper()
	return begin(t, "a").set(1, "id", "x").set(1, "class", "x y").under(1, "b").under(2, "c")
}

// TestUnmadeIndex: one that no call made has nothing, and stays as it is.
func TestUnmadeIndex(t *testing.T) {
	refused, _ := dom.New("")
	o := some(t)
	zero := &Index{}
	for what, x := range map[string]*Index{"nil": nil, "zero": zero, "new": new(Index)} {
		is(t, what, x.Len(), 0)
		for _, kind := range append([]int{0, 1, 2, 3, 4}, farNumbers...) {
			for _, name := range []string{"", "a", "x", "*"} {
				is(t, what, x.Size(kind, name), 0)
			}
		}
		for _, d := range []*dom.Doc{o.doc, nil, {}, refused} {
			for _, id := range append([]int{1, 2, 3, 4}, farNumbers...) {
				if got := x.Pick(d, id); len(got) != 0 {
					t.Errorf("%s: Pick of %d: %v", what, id, got)
				}
			}
		}
	}
	if zero.rules != 0 || zero.buckets != nil {
		t.Errorf("%v", zero)
	}
}

// TestUnmadeDoc: of a Doc that no call made nothing is Picked, not even what asks for nothing.
func TestUnmadeDoc(t *testing.T) {
	refused, _ := dom.New("")
	x := Make(pickRules(t))
	for what, d := range map[string]*dom.Doc{"nil": nil, "zero": {}, "New's with an error": refused} {
		for _, id := range append([]int{1, 2, 3}, farNumbers...) {
			if got := x.Pick(d, id); len(got) != 0 {
				t.Errorf("%s: Pick of %d: %v", what, id, got)
			}
		}
	}
}

// TestNone: of numbers that no element has, or has any more.
func TestNone(t *testing.T) {
	x := Make(pickRules(t))
	o := some(t).remove(2)
	for _, id := range append([]int{2, 3, 4, 5}, farNumbers...) {
		if got := x.Pick(o.doc, id); len(got) != 0 {
			t.Errorf("Pick of %d: %v", id, got)
		}
	}
	picks(t, "the root is left", x, pickRules(t), o)
}

// TestWrongKinds: a Kind that is none has no bucket, though its lowest bytes are those of one that has.
func TestWrongKinds(t *testing.T) {
	wrong := append([]int{-255, -3, 4, 5, 6, 7, 8, 9, 10, 11, 12, 257, 258, 259, 1<<32 + 3, 1 << 32}, farNumbers...)
	for _, kind := range wrong {
		c := part(api.Simple{Kind: kind, Name: "a", List: sel(t, "#a, .a, a")})
		lastIs(t, fmt.Sprint("kind ", kind), c, "")
		x := Make(placed([]api.Complex{c}))
		is(t, fmt.Sprint("Size of 0, kind ", kind), x.Size(0, ""), 1)
		is(t, "Pick", x.Pick(some(t).doc, 2), "[0]")
		for _, name := range []string{"", "a"} {
			if kind != 0 || name != "" {
				is(t, fmt.Sprintf("Size(%d, %q)", kind, name), x.Size(kind, name), 0)
			}
		}
	}
}

// TestSizeOfNone: kinds and names that no bucket has.
func TestSizeOfNone(t *testing.T) {
	x := Make(pickRules(t))
	for kind, name := range map[int]string{api.Tag: "*", api.Class: "z", api.ID: "k"} {
		is(t, fmt.Sprintf("Size(%d, %q)", kind, name), x.Size(kind, name), 0)
	}
	for _, kind := range append([]int{4, 5, 11, 12, 257, 258, 259}, farNumbers...) {
		for _, name := range []string{"*", "a", "x", "i", "x y", "\x00", "\xff", strings.Repeat("x", 1<<20)} {
			is(t, fmt.Sprintf("Size(%d, %.9q)", kind, name), x.Size(kind, name), 0)
		}
		if kind != 0 {
			is(t, fmt.Sprintf("Size(%d) of no name", kind), x.Size(kind, ""), 0)
		}
	}
	for kind := api.Tag; kind <= api.ID; kind++ {
		for _, name := range []string{"\x00", "\xff", " ", "a ", "A", "X", strings.Repeat("x", 1<<20)} {
			is(t, fmt.Sprintf("Size(%d, %.9q)", kind, name), x.Size(kind, name), 0)
		}
	}
}

// TestWrongNames: names that none may have have buckets all the same, and what a Kind does not name is not looked at.
func TestWrongNames(t *testing.T) {
	for _, name := range []string{"", "A", "\xff", "a b", "**", "\x00", strings.Repeat("é", 1<<18)} {
		for kind := api.Tag; kind <= api.ID; kind++ {
			c := part(api.Simple{Kind: kind, Name: name, Op: 9, Value: "v", A: 3, B: -1, List: sel(t, "#x y")})
			lastIs(t, "a name", c, oSign(kind)+name)
			x := Make(placed([]api.Complex{c}, []api.Complex{c, c}))
			is(t, fmt.Sprintf("Size(%d, %.9q)", kind, name), []int{x.Size(kind, name), x.Size(0, ""), x.Size(0, name+"a")}, "[2 0 0]")
		}
	}
}

// TestDeep: Lists within are not gone into, be they nested however deep.
func TestDeep(t *testing.T) {
	c := part(ident("x"))
	for range 1 << 18 {
		c = part(tag("*"), api.Simple{Kind: api.Not, List: []api.Complex{c}})
	}
	if kind, name := Last(c); kind != 0 || name != "" {
		t.Errorf("%d %q", kind, name)
	}
	if x := Make(placed([]api.Complex{c})); x.Size(0, "") != 1 || x.Len() != 1 {
		t.Error("deep")
	}
}

// TestLong: many Parts, many simple selectors, and many selectors of one rule.
func TestLong(t *testing.T) {
	const many = 1 << 18
	c := api.Complex{Parts: make([][]api.Simple, many)}
	for i := range c.Parts {
		c.Parts[i] = []api.Simple{class(fmt.Sprint(i))}
	}
	lastIs(t, "many parts", c, fmt.Sprint(".", many-1))
	l := make([]api.Simple, many)
	for i := range l {
		l[i] = tag("*")
	}
	lastIs(t, "many simple ones", part(l...), "")
	l[many-1] = tag("a")
	lastIs(t, "a Tag at the end", part(l...), "<a")
	l[many/2] = class("b")
	lastIs(t, "a Class in the midst", part(l...), ".b")
	list := make([]api.Complex, many)
	for i := range list {
		list[i] = part(class(fmt.Sprint("k", i%500)))
	}
	x := Make(placed(list, list))
	words := ""
	for i := range 180 {
		words += fmt.Sprint("k", i, " ")
	}
	is(t, "each once", x.Pick(begin(t, "a").set(1, "class", words).doc, 1), "[0 1]")
	is(t, "Size", []int{x.Size(api.Class, "k0"), x.Size(api.Class, "k499"), x.Size(api.Class, "k500")}, "[2 2 0]")
}

// TestManyRules: as many rules as there may be, and more; of an element whose class has the same words hundreds of times.
func TestManyRules(t *testing.T) {
	few := rules(t, ".x", "a", "*", "#i", ".x, .y", "b")
	for _, many := range []int{api.MaxRules, 3 * api.MaxRules} {
		l := make([]sheet.Placed, many)
		for i := range l {
			l[i] = few[i%len(few)]
		}
		x := Make(l)
		is(t, "Len", x.Len(), many)
		is(t, "Size", x.Size(api.Class, "y"), (many-4+5)/6)
		o := begin(t, "a").set(1, "class", strings.Repeat("x y ", 250))
		for range 5 {
			var want []int
			for i := range l {
				if k := i % 6; k != 3 && k != 5 {
					want = append(want, i)
				}
			}
			is(t, "Pick", x.Pick(o.doc, 1), want)
		}
	}
}

// TestManyWords: as many words of two bytes as an attribute's value may have, all of them different.
func TestManyWords(t *testing.T) {
	var texts, words []string
	for i := range 333 {
		word := string([]byte{byte('a' + i%26), byte('a' + i/26)})
		texts = append(texts, "."+word)
		words = append([]string{word}, words...)
	}
	l := rules(t, texts...)
	value := strings.Join(words, "\n")
	is(t, "bytes", len(value), 998)
	o := begin(t, "a").set(1, "class", value)
	is(t, "all", len(Make(l).Pick(o.doc, 1)), len(l))
	picks(t, "all", Make(l), l, o)
}
