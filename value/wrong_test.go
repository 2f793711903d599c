package value

import (
	"math"
	"slices"
	"strings"
	"testing"

	"gouache/api"
)

// TestZero: of nothing nothing is told.
func TestZero(t *testing.T) {
	is(t, "Wide", []any{Wide(nil), Wide([]api.Value{{}}), Wide(make([]api.Value, 3))}, []any{"", "", ""})
	is(t, "Color", told(Color(api.Value{})), none())
	is(t, "Part", told(Part("", api.Value{})), none())
	is(t, "Part", told(Part("<len>", api.Value{})), none())
	is(t, "Parse", told(Parse("", nil)), none())
	is(t, "Parse", told(Parse("width", []api.Value{{}})), none())
	is(t, "empty Ident", told(Part("", ident(""))), told("", true))
}

// TestKindsThatAreNone: at the ends of int and beside the kinds that there are.
func TestKindsThatAreNone(t *testing.T) {
	for _, kind := range []int{math.MinInt, math.MinInt + 1, -1, 0, 25, 26, 257, 266, 1 << 32, 1<<32 + 1, 1<<32 + 4, 1<<32 + 10, math.MaxInt - 1, math.MaxInt} {
		for _, s := range []string{"", "0", "red", "f00", "auto", "unset", "10"} {
			v := api.Value{Token: api.Token{Kind: kind, Text: s, Unit: "px", Whole: true, Flag: true}}
			is(t, s, Wide([]api.Value{v}), "")
			is(t, s, told(Color(v)), none())
			for _, f := range append(forms(), "", "red", "unset") {
				is(t, f, told(Part(f, v)), none())
			}
			is(t, s, told(Parse("color", []api.Value{v})), none())
			is(t, s, told(Parse("margin-top", []api.Value{v})), none())
		}
	}
}

// TestNumbersThatAreNone: numbers of which the Text is none, as no text has them, also where they say that they are Whole.
func TestNumbersThatAreNone(t *testing.T) {
	for _, s := range []string{"", "-", "+", "--0", "+-0", "0 ", " 0", "0.", ".0", "0e0", "0x0", "zero", "٠", "\xff", "0\x00", "1_0", "−0"} {
		for _, v := range []api.Value{num(s), pct(s), dim(s, "px")} {
			for _, f := range []string{"<len>", "<len+>", "<pct>", "<pct+>", "<int>", "<int+>"} {
				is(t, f+" "+s, told(Part(f, v)), none())
			}
		}
	}
	for _, s := range []string{"0", "5", "-5"} {
		for _, v := range []api.Value{num(s), pct(s), dim(s, "px")} {
			v.Token.Whole = false
			for _, f := range []string{"<len>", "<len+>", "<pct>", "<pct+>", "<int>", "<int+>"} {
				is(t, f+" "+s, told(Part(f, v)), none())
			}
		}
	}
}

// TestBytesThatAreNone: bytes with which no character begins, in each place.
func TestBytesThatAreNone(t *testing.T) {
	for _, bad := range []string{"\xff", "\xc3", "\xed\xa0\x80", "\xf4\x90\x80\x80", "\x80", "\xc0\xaf", "\x00", "\ufffd"} {
		for _, s := range []string{bad, bad + "red", "red" + bad, "r" + bad + "d", "10px" + bad, bad + "10px", "unset" + bad, "#fff" + bad, "#" + bad + "ff"} {
			is(t, s, Wide(cut(s)), "")
			is(t, s, told(Parse("color", cut(s))), none())
			is(t, s, told(Parse("width", cut(s))), none())
			is(t, s, told(Color(ident(s))), none())
			is(t, s, told(Color(hash(s))), none())
			is(t, s, told(Part(s, ident(s))), told(s, true))
			n, unit, ok := Number(s)
			is(t, s, []any{n, unit, ok}, []any{0, "", false})
		}
	}
	// A byte that is none is not what U+FFFD is.
	is(t, "alike", told(Part("\xff", ident("\ufffd"))), none())
	is(t, "alike", told(Part("\xff", ident("\xfe"))), none())
}

// TestLong: very long texts, of each kind that is looked at.
func TestLong(t *testing.T) {
	const many = 1 << 22
	nines, noughts, letters := strings.Repeat("9", many), strings.Repeat("0", many), strings.Repeat("a", many)
	n, unit, ok := Number("-" + nines + "px")
	is(t, "nines", []any{n, unit, ok}, []any{-1000000, "px", true})
	n, unit, ok = Number(noughts + "12%")
	is(t, "noughts", []any{n, unit, ok}, []any{12, "%", true})
	n, unit, ok = Number(nines + "x")
	is(t, "another sign", []any{n, unit, ok}, []any{0, "", false})
	n, unit, ok = Number(strings.Repeat("-", many) + "1")
	is(t, "many signs", []any{n, unit, ok}, []any{0, "", false})
	is(t, "a number", told(Parse("order", []api.Value{num("-" + nines)})), told("-1000000", true))
	is(t, "a length", told(Parse("width", []api.Value{dim(noughts, "PX")})), told("0px", true))
	is(t, "a percent", told(Parse("width", []api.Value{pct(nines)})), told("1000000%", true))
	is(t, "a unit", told(Parse("width", []api.Value{dim("1", letters)})), none())
	is(t, "a word", told(Parse("display", []api.Value{ident(letters)})), none())
	is(t, "a colour", told(Color(ident(letters))), none())
	is(t, "a hash", told(Color(hash(letters))), none())
	is(t, "wide", Wide([]api.Value{ident(letters)}), "")
	s, ok := Part(letters, ident(strings.ToUpper(letters)))
	is(t, "a form", []any{s == letters, ok}, []any{true, true})
	is(t, "a form with a +", told(Part("<"+letters+"+>", num("1"))), none())
}

// TestManyValues: very many values, and very many Spaces around one.
func TestManyValues(t *testing.T) {
	const many = 1 << 20
	l := slices.Repeat([]api.Value{ident("unset")}, many)
	is(t, "many", []any{Wide(l), told(Parse("width", l))}, []any{"", none()})
	for i := range l {
		l[i] = api.Value{Token: api.Token{Kind: api.Space}}
	}
	is(t, "Spaces", []any{Wide(l), told(Parse("width", l))}, []any{"", none()})
	l[many/2] = ident("Unset")
	is(t, "one", []any{Wide(l), told(Parse("width", l))}, []any{"unset", none()})
	l[many/2] = dim("7", "Px")
	is(t, "one", []any{Wide(l), told(Parse("width", l))}, []any{"", told("7px", true)})
	l[many/2+1] = ident("x")
	is(t, "two", told(Parse("width", l)), none())
}

// TestDeep: Kids in Kids, as deep as the document's bound.
func TestDeep(t *testing.T) {
	v := ident("red")
	for range 1 << 16 {
		v = with(ident("Red"), v)
	}
	is(t, "Wide", Wide([]api.Value{v}), "")
	is(t, "Color", told(Color(v)), told("#ff0000", true))
	is(t, "Part", told(Part("<color>", v)), none())
	is(t, "Parse", told(Parse("color", []api.Value{v})), none())
}

// TestBlocks: blocks and functions are no values, empty or not.
func TestBlocks(t *testing.T) {
	for _, s := range []string{"()", "[]", "{}", "(0)", "[auto]", "{red}", "red()", "auto(0)", "unset()", "url(red)", "url(\"red\")", "rgb(0,0,0)", "calc(1px)", "var(--x)", "(", "red(", "\"red\"", "'0", "\"red\n", ")", "]", "}", "<!--", "-->", ":", ";", ",", "@red", "!", "#", "+", "-", "."} {
		is(t, s, Wide(cut(s)), "")
		for _, name := range names() {
			is(t, name+" "+s, told(Parse(name, cut(s))), none())
		}
		for _, v := range cut(s) {
			is(t, s, told(Color(v)), none())
			for _, f := range forms() {
				is(t, f+" "+s, told(Part(f, v)), none())
			}
		}
	}
}
