package short

import (
	"math"
	"slices"
	"strings"
	"testing"

	"gouache/api"
	"gouache/prop"
)

// names: those of all longhands and shorthands.
func names() []string { return append(longNames(), prop.Shorts()...) }

// TestZero: of nothing nothing is told.
func TestZero(t *testing.T) {
	is(t, "Expand", Expand(api.Decl{}), nothing())
	is(t, "Expand", Expand(api.Decl{Value: make([]api.Value, 3)}), nothing())
	is(t, "All", All(make([]api.Decl, 5)), nothing())
	is(t, "Join", told(Join("", nil)), told("", false))
	is(t, "Sides", Sides(0, 0), -1)
	for _, name := range names() {
		for n := range 6 {
			dies(t, api.Decl{Name: name, Value: make([]api.Value, n)})
		}
	}
}

// TestKindsThatAreNone: at the ends of int and beside the kinds that there are: no Spaces, and no values.
func TestKindsThatAreNone(t *testing.T) {
	for _, kind := range []int{math.MinInt, math.MinInt + 1, -13, -1, 0, 25, 26, 269, 1<<32 + 1, 1<<32 + 12, 1<<32 + 13, math.MaxInt - 1, math.MaxInt} {
		for _, s := range []string{"", "0", "red", "auto", "unset", "10", " "} {
			v := api.Value{Token: api.Token{Kind: kind, Text: s, Unit: "px", Whole: true, Flag: true}}
			for _, name := range names() {
				dies(t, api.Decl{Name: name, Value: []api.Value{v}})
				dies(t, api.Decl{Name: name, Value: []api.Value{space(), v, space()}})
			}
			dies(t, api.Decl{Name: "margin", Value: []api.Value{dim("1", "px"), v, dim("1", "px")}})
			dies(t, api.Decl{Name: "margin", Value: []api.Value{dim("1", "px"), space(), v}})
			dies(t, api.Decl{Name: "margin", Value: []api.Value{v, dim("1", "px")}})
		}
	}
}

// TestEachKind: of each kind that there is, only Space parts two values.
func TestEachKind(t *testing.T) {
	for kind := range 30 {
		d := api.Decl{Name: "margin", Value: []api.Value{dim("1", "px"), {Token: api.Token{Kind: kind}}, ident("auto")}}
		if kind == api.Space {
			expands(t, d, prop.Longs("margin"), []string{"1px", "auto", "1px", "auto"})
		} else {
			dies(t, d)
		}
	}
}

// TestBytesThatAreNone: bytes with which no character begins, in names, values and texts to be joined.
func TestBytesThatAreNone(t *testing.T) {
	for _, bad := range []string{"\xff", "\xc3", "\xed\xa0\x80", "\xf4\x90\x80\x80", "\x80", "\xc0\xaf", "\x00", "\ufffd"} {
		for _, name := range names() {
			for _, s := range []string{bad, bad + "auto", "unset" + bad, "0 " + bad, bad + " 0", "0 0 0 " + bad, "0" + bad + "0"} {
				dies(t, decl(name, s))
				d := api.Decl{Name: name, Value: []api.Value{ident(s)}}
				dies(t, d)
			}
			dies(t, decl(name+bad, "unset"))
			dies(t, decl(bad+name, "unset"))
			is(t, name, told(Join(name+bad, slices.Repeat([]string{"a"}, 4))), told("", false))
		}
		for _, s := range shorthands() {
			l := slices.Repeat([]string{bad}, len(s.longs))
			is(t, s.name, told(Join(s.name, l)), told(bad, true))
			l[1] = bad + bad
			is(t, s.name, told(Join(s.name, l)), told(oJoin(s.name, l)))
		}
	}
}

// TestKids: a value with Kids is not read, as value's Parse says; a wide word is told all the same, as value's Wide says.
func TestKids(t *testing.T) {
	for _, s := range shorthands() {
		for at, part := range cells(strings.Join(s.texts[:len(s.longs)], " ")) {
			l := cells(strings.Join(s.texts[:len(s.longs)], " "))
			expands(t, api.Decl{Name: s.name, Value: l}, s.longs, s.values[:len(s.longs)])
			if part.Token.Kind != api.Space {
				l[at].Kids = []api.Value{{}}
				dies(t, api.Decl{Name: s.name, Value: l})
				dies(t, api.Decl{Name: s.longs[0], Value: l[at : at+1]})
			}
		}
		expands(t, api.Decl{Name: s.name, Value: []api.Value{with(ident("Unset"), ident("x"))}}, s.longs, slices.Repeat([]string{"unset"}, len(s.longs)))
	}
	expands(t, api.Decl{Name: "color", Value: []api.Value{with(ident("Unset"), ident("x"))}}, []string{"color"}, []string{"unset"})
	dies(t, api.Decl{Name: "color", Value: []api.Value{with(ident("red"), ident("x"))}})
	// Spaces in Kids part nothing.
	dies(t, decl("margin", "(1px 2px)"))
	dies(t, decl("margin", "f(1px 2px) 1px"))
}

// TestDeep: Kids in Kids, as deep as the document's bound.
func TestDeep(t *testing.T) {
	v := ident("auto")
	for range 1 << 16 {
		v = with(ident("auto"), v)
	}
	dies(t, api.Decl{Name: "margin", Value: []api.Value{v}})
	dies(t, api.Decl{Name: "margin", Value: []api.Value{ident("auto"), space(), v}})
	dies(t, api.Decl{Name: "margin-top", Value: []api.Value{v}})
	dies(t, api.Decl{Name: "x", Value: []api.Value{v}})
	v.Token.Text = "inherit"
	is(t, "wide", len(Expand(api.Decl{Name: "margin", Value: []api.Value{v}})), 4)
}

// TestLong: very long texts, in names, values and lists to be joined.
func TestLong(t *testing.T) {
	const many = 1 << 22
	nines, as := strings.Repeat("9", many), strings.Repeat("a", many)
	is(t, "a length", Expand(api.Decl{Name: "padding-top", Value: []api.Value{dim(nines, "PX")}}), []Long{{"padding-top", "1000000px", false}})
	l := []api.Value{dim("-"+nines, "px"), space(), dim(strings.Repeat("0", many)+"7", "px")}
	expands(t, api.Decl{Name: "margin", Value: l}, prop.Longs("margin"), []string{"-1000000px", "7px", "-1000000px", "7px"})
	is(t, "a word", Expand(api.Decl{Name: "margin", Value: []api.Value{ident(as)}}), nothing())
	is(t, "a unit", Expand(api.Decl{Name: "margin", Value: []api.Value{dim("1", as)}}), nothing())
	is(t, "a name", Expand(api.Decl{Name: as, Value: []api.Value{ident("unset")}}), nothing())
	is(t, "a name", told(Join(as, []string{"a", "a"})), told("", false))
	s, ok := Join("margin", []string{as, as, as, as})
	is(t, "one part", []any{s == as, ok}, []any{true, true})
	s, ok = Join("overflow", []string{as, nines})
	is(t, "two parts", []any{s == as+" "+nines, ok}, []any{true, true})
	s, ok = Join("margin", []string{as, nines, as, as + "a"})
	is(t, "four parts", []any{s == strings.Join([]string{as, nines, as, as + "a"}, " "), ok}, []any{true, true})
}

// TestManyValues: very many values, Spaces, parts, declarations and texts.
func TestManyValues(t *testing.T) {
	const many = 1 << 20
	l := slices.Repeat([]api.Value{space()}, many)
	none := func(what string) {
		t.Helper()
		for _, name := range []string{"margin", "overflow", "color"} {
			is(t, what, len(Expand(api.Decl{Name: name, Value: l})), 0)
		}
	}
	none("Spaces")
	l[many/2] = ident("Unset")
	is(t, "wide", len(Expand(api.Decl{Name: "margin", Value: l})), 4)
	l[many/2] = dim("1", "px")
	l[many-1] = ident("auto")
	is(t, "two parts", valuesOf(Expand(api.Decl{Name: "margin", Value: l})), []string{"1px", "auto", "1px", "auto"})
	for i := range l {
		l[i] = ident("auto")
	}
	none("one part of many values")
	for i := 1; i < len(l); i += 2 {
		l[i] = space()
	}
	none("many parts")
	decls := slices.Repeat([]api.Decl{decl("overflow", "clip auto")}, 1<<17)
	all := All(decls)
	is(t, "All", []any{len(all), all[len(all)-1]}, []any{1 << 18, Long{"overflow-y", "auto", false}})
	is(t, "Join", told(Join("margin", make([]string, many))), told("", false))
}
