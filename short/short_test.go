package short

import (
	"math"
	"math/rand"
	"slices"
	"strings"
	"testing"

	"gouache/api"
	"gouache/parse"
	"gouache/prop"
)

// TestExample: the chapter's.
func TestExample(t *testing.T) {
	is(t, "Expand", Expand(decl("margin", "1px 2px")), []Long{{"margin-top", "1px", false}, {"margin-right", "2px", false}, {"margin-bottom", "1px", false}, {"margin-left", "2px", false}})
	is(t, "Join", told(Join("margin", []string{"1px", "2px", "1px", "2px"})), told("1px 2px", true))
}

// TestShorthands: the tests' own list of shorthands is prop's.
func TestShorthands(t *testing.T) {
	var names []string
	for _, s := range shorthands() {
		names = append(names, s.name)
		is(t, s.name, s.longs, prop.Longs(s.name))
	}
	is(t, "names", names, prop.Shorts())
}

// around: a text as it stands, and with Space and comments at its ends.
func around(s string) []string {
	return []string{s, " " + s, s + "\n", "\t " + s + "  ", "/**/" + s + "/**/", " /**/ /**/ " + s + " /**/ /**/ "}
}

// TestWideLonghands: each longhand with each wide word.
func TestWideLonghands(t *testing.T) {
	r := rand.New(rand.NewSource(1))
	for _, name := range longNames() {
		for _, w := range []string{"inherit", "initial", "unset"} {
			for _, s := range []string{w, strings.ToUpper(w), letters(r, w)} {
				for _, x := range around(s) {
					expands(t, decl(name, x), []string{name}, []string{w})
				}
				for _, x := range []string{s + " " + s, s + "/**/" + s, "auto " + s, s + " 0", "\"" + s + "\"", "(" + s + ")", s + "()", s + ",", "#" + s, "-" + s} {
					dies(t, decl(name, x))
				}
			}
		}
	}
}

// TestFormsOfLonghands: each longhand with each part of its Forms.
func TestFormsOfLonghands(t *testing.T) {
	texts := map[string][][2]string{
		"<len>":   {{"-3PX", "-3px"}, {"0", "0px"}, {"+12px", "12px"}, {"1000001px", "1000000px"}},
		"<len+>":  {{"3PX", "3px"}, {"0", "0px"}, {"0012px", "12px"}},
		"<pct>":   {{"-3%", "-3%"}, {"+50%", "50%"}},
		"<pct+>":  {{"3%", "3%"}, {"000%", "0%"}},
		"<int>":   {{"-7", "-7"}, {"+7", "7"}, {"0", "0"}},
		"<int+>":  {{"7", "7"}, {"0400", "400"}},
		"<color>": {{"RED", "#ff0000"}, {"#F0a", "#ff00aa"}, {"#012DEF", "#012def"}},
	}
	for _, p := range prop.All() {
		for _, form := range prop.Forms(p) {
			rows := texts[form]
			if !strings.HasPrefix(form, "<") {
				rows = [][2]string{{form, form}, {strings.ToUpper(form), form}}
			}
			is(t, "rows for "+form, len(rows) > 1, true)
			for _, row := range rows {
				// The first form that fits counts: a 0 that may be a number is no length.
				if row[0] == "0" && strings.Contains(p.Form, "<int") {
					row[1] = "0"
				}
				for _, x := range around(row[0]) {
					expands(t, decl(p.Name, x), []string{p.Name}, []string{row[1]})
				}
				for _, x := range []string{row[0] + " " + row[0], row[0] + "/**/" + row[0], row[0] + ",", row[0] + " inherit", row[0] + " " + row[0] + " " + row[0] + " " + row[0]} {
					dies(t, decl(p.Name, x))
				}
			}
		}
	}
}

// TestLonghandsThatAreNotRead: nothing, and what no longhand reads.
func TestLonghandsThatAreNotRead(t *testing.T) {
	for _, name := range longNames() {
		for _, s := range []string{"", " ", "/**/ /**/", "x", "1.5px", "1em", "\"a\"", "()", "{}", ";", "#ab", "revert", "!important", "calc(1px)"} {
			dies(t, decl(name, s))
		}
		dies(t, api.Decl{Name: name})
		dies(t, api.Decl{Name: name, Value: []api.Value{}})
		dies(t, api.Decl{Name: name, Value: []api.Value{{}}})
	}
	for _, x := range [][2]string{{"width", "-1px"}, {"padding-top", "auto"}, {"color", "transparent"}, {"order", "1px"}, {"font-weight", "-1"}, {"display", "visible"}, {"overflow-x", "none"}, {"border-top-width", "1%"}} {
		dies(t, decl(x[0], x[1]))
	}
}

// TestWideShorthands: each shorthand with each wide word: each of its longhands has it.
func TestWideShorthands(t *testing.T) {
	r := rand.New(rand.NewSource(2))
	for _, s := range shorthands() {
		for _, w := range []string{"inherit", "initial", "unset"} {
			for _, x := range []string{w, strings.ToUpper(w), strings.ToUpper(w[:1]) + w[1:], letters(r, w)} {
				for _, y := range around(x) {
					expands(t, decl(s.name, y), s.longs, slices.Repeat([]string{w}, len(s.longs)))
				}
			}
		}
	}
}

// TestWideBesideAnother: a wide word is no part.
func TestWideBesideAnother(t *testing.T) {
	for _, s := range shorthands() {
		for _, w := range []string{"inherit", "INITIAL", "Unset"} {
			for n := 2; n <= 5; n++ {
				for at := range n {
					parts := slices.Clone(s.texts[:n])
					parts[at] = w
					dies(t, decl(s.name, strings.Join(parts, " ")))
				}
				dies(t, decl(s.name, strings.Join(slices.Repeat([]string{w}, n), " ")))
			}
			dies(t, decl(s.name, w+"/**/"+w))
			dies(t, decl(s.name, s.texts[0]+"/**/"+w))
			dies(t, decl(s.name, w+"()"))
			dies(t, decl(s.name, "("+w+")"))
		}
	}
}

// TestParts: each shorthand with each number of its texts, from each of them on.
func TestParts(t *testing.T) {
	for _, s := range shorthands() {
		for first := range s.texts {
			texts := append(slices.Clone(s.texts[first:]), s.texts[:first]...)
			values := append(slices.Clone(s.values[first:]), s.values[:first]...)
			for n := 1; n <= len(s.longs); n++ {
				var want []string
				for side := range s.longs {
					want = append(want, values[oSide(n, side)])
				}
				for _, x := range around(strings.Join(texts[:n], " ")) {
					expands(t, decl(s.name, x), s.longs, want)
				}
			}
			for n := len(s.longs) + 1; n <= len(texts); n++ {
				dies(t, decl(s.name, strings.Join(texts[:n], " ")))
			}
		}
	}
}

// TestPartsByHand: what comes to what, written out.
func TestPartsByHand(t *testing.T) {
	type row struct{ name, s, want string }
	for _, x := range []row{
		{"margin", "0", "0px 0px 0px 0px"}, {"margin", "AUTO 5%", "auto 5% auto 5%"}, {"margin", "1px 2px 3px", "1px 2px 3px 2px"}, {"margin", "1px 2px 3px 4px", "1px 2px 3px 4px"}, {"margin", "-1px -2%", "-1px -2% -1px -2%"},
		{"padding", "7px", "7px 7px 7px 7px"}, {"padding", "1px 2%", "1px 2% 1px 2%"}, {"padding", "1px 2% 0", "1px 2% 0px 2%"}, {"padding", "1px 2% 0 4px", "1px 2% 0px 4px"},
		{"border-width", "THIN", "thin thin thin thin"}, {"border-width", "thin 2px", "thin 2px thin 2px"}, {"border-width", "thin 2px thick", "thin 2px thick 2px"}, {"border-width", "0 0 0 medium", "0px 0px 0px medium"},
		{"border-style", "none", "none none none none"}, {"border-style", "solid dashed", "solid dashed solid dashed"}, {"border-style", "solid dashed dotted", "solid dashed dotted dashed"}, {"border-style", "solid dashed dotted double", "solid dashed dotted double"},
		{"border-color", "red", "#ff0000 #ff0000 #ff0000 #ff0000"}, {"border-color", "red #00F", "#ff0000 #0000ff #ff0000 #0000ff"}, {"border-color", "red #00f transparent", "#ff0000 #0000ff transparent #0000ff"}, {"border-color", "red #00f transparent CurrentColor", "#ff0000 #0000ff transparent currentcolor"},
		{"overflow", "hidden", "hidden hidden"}, {"overflow", "hidden SCROLL", "hidden scroll"}, {"overflow", "auto auto", "auto auto"},
	} {
		for _, s := range shorthands() {
			if s.name == x.name {
				expands(t, decl(x.name, x.s), s.longs, strings.Fields(x.want))
			}
		}
	}
}

// TestHowMany: no part, and more parts than may be, also where all are alike.
func TestHowMany(t *testing.T) {
	for _, s := range shorthands() {
		for _, x := range []string{"", " ", "\n\t", "/**/", " /**/ /**/ "} {
			dies(t, decl(s.name, x))
		}
		dies(t, api.Decl{Name: s.name})
		dies(t, api.Decl{Name: s.name, Value: []api.Value{}})
		dies(t, api.Decl{Name: s.name, Value: []api.Value{space(), space(), space()}})
		for n := range 12 {
			d := decl(s.name, strings.Repeat(" "+s.texts[0], n))
			if n >= 1 && n <= len(s.longs) {
				expands(t, d, s.longs, slices.Repeat(s.values[:1], len(s.longs)))
			} else {
				dies(t, d)
			}
		}
	}
}

// TestSpaces: Spaces side by side count as one, those at the ends as none, whatever they are made of.
func TestSpaces(t *testing.T) {
	between := []string{" ", "\n", "\t\r\n\f ", " /**/ ", " /* */ /**/ /**/\n", "/**/ ", " /**/"}
	ends := append(between, "", "/**/")
	for _, s := range shorthands() {
		for n := 1; n <= 4; n++ {
			want := oExpand(decl(s.name, strings.Join(s.texts[:n], " ")))
			is(t, s.name, len(want) > 0, n <= len(s.longs))
			for _, b := range between {
				for _, e := range ends {
					is(t, s.name+b+e, Expand(decl(s.name, e+strings.Join(s.texts[:n], b)+e)), want)
				}
			}
		}
	}
	var l []api.Value
	for _, v := range cells("1px 2px 3px") {
		l = append(l, space(), v, space(), space())
	}
	expands(t, api.Decl{Name: "margin", Value: l}, prop.Longs("margin"), []string{"1px", "2px", "3px", "2px"})
	// What a Space has beside its kind does not matter.
	odd := api.Value{Token: api.Token{Kind: api.Space, Text: "1px", Unit: "px", Whole: true, Flag: true}, Kids: cells("9px")}
	expands(t, api.Decl{Name: "margin", Value: []api.Value{odd, dim("1", "px"), odd, odd, ident("auto"), odd}}, prop.Longs("margin"), []string{"1px", "auto", "1px", "auto"})
}

// TestPartsOfTwoValues: a part is one value.
func TestPartsOfTwoValues(t *testing.T) {
	for _, s := range shorthands() {
		for n := 1; n <= 4; n++ {
			for at := range n {
				for _, join := range []string{"/**/", ",", ";", "!", "/", "()", "\"\""} {
					parts := slices.Clone(s.texts[:n])
					parts[at] += join + s.texts[4]
					dies(t, decl(s.name, strings.Join(parts, " ")))
					parts[at] = s.texts[at] + join
					if join != "/**/" {
						dies(t, decl(s.name, strings.Join(parts, " ")))
					}
					parts[at] = join + s.texts[at]
					if join != "/**/" {
						dies(t, decl(s.name, strings.Join(parts, " ")))
					}
				}
			}
		}
	}
	dies(t, decl("margin", "1px, 2px"))
	dies(t, decl("margin", "1px / 2px"))
	dies(t, decl("margin", "(1px 2px)"))
}

// TestPartsThatAreNotRead: one part that is not read is enough, in each place of each number of parts.
func TestPartsThatAreNotRead(t *testing.T) {
	for _, s := range shorthands() {
		for n := 1; n <= len(s.longs); n++ {
			for at := range n {
				for _, bad := range []string{s.wrong, "x", "1em", "1.0px", "#ab", "\"1px\"", "()", "[" + s.texts[0] + "]", "f(" + s.texts[0] + ")", "!", "/", ",", "\xff"} {
					parts := slices.Clone(s.texts[:n])
					parts[at] = bad
					dies(t, decl(s.name, strings.Join(parts, " ")))
				}
			}
		}
	}
	dies(t, decl("margin", "1px x"))
	dies(t, decl("padding", "1px 1px -1px"))
	dies(t, decl("border-width", "1px 1px 1px 1%"))
}

// TestOtherNames: neither a longhand nor a shorthand, and those in other letters.
func TestOtherNames(t *testing.T) {
	names := []string{"", " ", "x", "border", "border-top", "border-left-", "margin-", "margin-x", "marginx", "-margin", "overflow-z", "outline", "background", "font", "--margin", "inherit", "all", "\xff", "margin\x00"}
	for _, n := range append(longNames(), prop.Shorts()...) {
		names = append(names, strings.ToUpper(n), strings.ToUpper(n[:1])+n[1:], n+" ", " "+n, n+"-", n+n)
	}
	for _, n := range names {
		for _, s := range []string{"", "inherit", "1px", "0", "auto", "none", "red", "1px 2px", "1px 2px 3px 4px", "hidden"} {
			dies(t, decl(n, s))
		}
		for k := range 6 {
			is(t, n, told(Join(n, slices.Repeat([]string{"1px"}, k))), told("", false))
		}
	}
}

// TestImportant: Important is d's, as a text says it.
func TestImportant(t *testing.T) {
	for _, s := range shorthands() {
		l := parse.Decls(cells(s.name + ": " + s.texts[0] + " ! IMPORTANT;" + s.name + ":unset;" + strings.ToUpper(s.name) + ":unset!important"))
		is(t, s.name, len(l), 3)
		for i, x := range []struct {
			value string
			yes   bool
		}{{s.values[0], true}, {"unset", false}, {"unset", true}} {
			var want []Long
			for _, name := range s.longs {
				want = append(want, Long{name, x.value, x.yes})
			}
			is(t, s.name, Expand(l[i]), want)
		}
	}
	is(t, "a longhand", Expand(important(decl("color", "red"))), []Long{{"color", "#ff0000", true}})
	is(t, "a longhand", Expand(decl("color", "red")), []Long{{"color", "#ff0000", false}})
	// As a value that ends so was not cut by Decls, these are parts.
	dies(t, decl("margin", "1px !important"))
	dies(t, decl("margin-top", "1px !important"))
}

// TestSides: each number of parts and each side, those out of their bounds, and the ends of int.
func TestSides(t *testing.T) {
	for n := -20; n < 20; n++ {
		for side := -20; side < 20; side++ {
			is(t, "Sides", Sides(n, side), oSide(n, side))
		}
	}
	for _, n := range []int{math.MinInt, math.MinInt + 1, -1 << 32, -1, 0, 5, 257, 1 << 32, 1<<32 + 1, math.MaxInt - 1, math.MaxInt} {
		for in := range 6 {
			is(t, "Sides", []int{Sides(n, in), Sides(n, n)}, []int{-1, -1})
			is(t, "Sides", Sides(in, n), oSide(in, n))
		}
	}
}

// TestAll: declarations one behind the other, with those that come to nothing between.
func TestAll(t *testing.T) {
	is(t, "none", [][]Long{All(nil), All([]api.Decl{}), All([]api.Decl{{}, {}}), All([]api.Decl{decl("margin", "")})}, [][]Long{nil, nil, nil, nil})
	l := parse.Decls(cells("margin:1px 2px; margin-top:AUTO!important; x:y; color:red; overflow:clip hidden !important; margin:1px x; color:inherit; padding:unset; width:-1px; color:red"))
	is(t, "how many", len(l), 10)
	is(t, "All", All(l), []Long{
		{"margin-top", "1px", false}, {"margin-right", "2px", false}, {"margin-bottom", "1px", false}, {"margin-left", "2px", false},
		{"margin-top", "auto", true},
		{"color", "#ff0000", false},
		{"overflow-x", "clip", true}, {"overflow-y", "hidden", true},
		{"color", "inherit", false},
		{"padding-top", "unset", false}, {"padding-right", "unset", false}, {"padding-bottom", "unset", false}, {"padding-left", "unset", false},
		{"color", "#ff0000", false},
	})
}

// TestAllByChance: All is Expand of each.
func TestAllByChance(t *testing.T) {
	r := rand.New(rand.NewSource(3))
	names := slices.Concat(longNames(), prop.Shorts(), prop.Shorts(), prop.Shorts(), []string{"", "x", "border"})
	for range 3000 {
		var l []api.Decl
		var want []Long
		for range r.Intn(12) {
			d := decl(names[r.Intn(len(names))], chance(r))
			d.Important = r.Intn(2) == 0
			l, want = append(l, d), append(want, oExpand(d)...)
		}
		is(t, "All", All(l), want)
	}
}

// TestExpandOfAllLists: all lists of up to six values that matter, against the second telling.
func TestExpandOfAllLists(t *testing.T) {
	some := []api.Value{space(), dim("1", "px"), ident("Auto"), ident("Inherit"), ident("x")}
	many := 0
	for _, l := range lists(some, 6) {
		for _, name := range []string{"margin", "overflow", "padding", "margin-left"} {
			d := api.Decl{Name: name, Value: l}
			want := oExpand(d)
			is(t, name, Expand(d), want)
			if len(want) > 0 {
				many++
			}
		}
	}
	is(t, "how many were told", many, 375)
	for _, l := range lists([]api.Value{space(), ident("auto"), ident("clip")}, 9) {
		for _, name := range []string{"margin", "overflow"} {
			d := api.Decl{Name: name, Value: l, Important: len(l)%2 == 0}
			is(t, name, Expand(d), oExpand(d))
		}
	}
}

// TestExpandByChance: texts of pieces, by each name, against the second telling.
func TestExpandByChance(t *testing.T) {
	r := rand.New(rand.NewSource(4))
	names := append(longNames(), prop.Shorts()...)
	for range 4000 {
		s := chance(r)
		for _, name := range names {
			d := decl(name, s)
			is(t, name+" "+s, Expand(d), oExpand(d))
		}
	}
}
