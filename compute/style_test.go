package compute

import (
	"fmt"
	"slices"
	"strings"
	"testing"

	"gouache/api"
	"gouache/sheet"
)

// gets: Get and Style tell this value of an element.
func gets(t *testing.T, p page, id int, l []sheet.Placed, name, want string) {
	t.Helper()
	is(t, fmt.Sprint(name, " of ", id), told(Get(p.doc, id, l, name)), told(want, api.OK))
	is(t, fmt.Sprint(name, " of ", id), Style(p.doc, id, l)[oPlace(name)], want)
}

// TestTheChaptersExample: P18.4, the chapter's example, and those of the whole that a style shows.
func TestTheChaptersExample(t *testing.T) {
	p := begin(t, "a").under(1, "b").under(2, "c")
	l := author(t, "*{font-size:50%}")
	for id, want := range map[int]string{1: "8px", 2: "4px", 3: "2px"} {
		gets(t, p, id, l, "font-size", want)
	}
	l = author(t, "a{color:red;border:x;border-top-style:solid}")
	gets(t, p, 1, l, "border-top-width", "3px")
	gets(t, p, 1, l, "border-top-color", "#ff0000")
	l = rules(t, css{api.Agent, "a{color:red!important}"}, css{api.Author, "a{color:blue!important}"})
	gets(t, p, 1, l, "color", "#ff0000")
}

// TestStyleWithoutRules: P18.4, no rules, or none that says anything: the Initials, Fixed.
func TestStyleWithoutRules(t *testing.T) {
	d := some(t)
	below := with(quiet(), "background-color", "transparent")
	root := with(below, "display", "block")
	for what, l := range map[string][]sheet.Placed{
		"no rules":                nil,
		"no sheets":               sheet.New().All(),
		"sheets without rules":    rules(t, css{1, ""}, css{2, "1{}"}, css{3, "{}"}),
		"no declarations":         author(t, "*{} b{}"),
		"declarations of nothing": author(t, "*{color:x;border:1px;margin:1px,2px}"),
		"rules of others":         author(t, "q{color:red} a > a{color:red}"),
		"zero rules":              make([]sheet.Placed, 3),
	} {
		is(t, what, Style(d, 1, l), root)
		for id := 2; id < 8; id++ {
			is(t, what, Style(d, id, l), below)
		}
	}
}

// TestStyle: P18.4, whole styles of a page below sheets of each origin.
func TestStyle(t *testing.T) {
	p := page{t, some(t)}
	l := rules(t,
		css{api.Agent, "a{color:#010203;display:inline} b{display:block;margin:1px 2px} .x{float:left!important}"},
		css{api.User, "b{color:green;font-weight:bold} #j{color:red!important;position:fixed}"},
		css{api.Author, "a{font-size:40px} .x{font-size:50%;float:right;border-style:solid none} .y{color:blue;border-color:currentcolor red;border-style:dotted} d{background-color:currentcolor;width:inherit;margin-top:inherit;float:left;font-weight:unset;color:black}"},
	)
	below := with(quiet(), "background-color", "transparent")
	one := with(below, "display", "block", "color", "#010203", "font-size", "40px", "border-top-color", "#010203", "border-right-color", "#010203", "border-bottom-color", "#010203", "border-left-color", "#010203")
	is(t, "1", Style(p.doc, 1, l), one)
	green := []string{"color", "#008000", "border-top-color", "#008000", "border-right-color", "#008000", "border-bottom-color", "#008000", "border-left-color", "#008000"}
	margins := []string{"margin-top", "1px", "margin-right", "2px", "margin-bottom", "1px", "margin-left", "2px"}
	two := with(one, slices.Concat(green, margins, []string{"font-weight", "700", "font-size", "20px", "float", "left", "border-top-style", "solid", "border-bottom-style", "solid", "border-top-width", "3px", "border-bottom-width", "3px"})...)
	is(t, "2", Style(p.doc, 2, l), two)
	blue := []string{"color", "#0000ff", "border-top-color", "#0000ff", "border-right-color", "#ff0000", "border-bottom-color", "#0000ff", "border-left-color", "#ff0000"}
	dots := []string{}
	for _, side := range sides() {
		dots = append(dots, "border-"+side+"-style", "dotted", "border-"+side+"-width", "3px")
	}
	is(t, "3", Style(p.doc, 3, l), with(one, slices.Concat(blue, dots, margins, []string{"font-weight", "700"})...))
	is(t, "4", Style(p.doc, 4, l), with(below, slices.Concat(blue, dots, []string{"font-weight", "700", "font-size", "10px", "float", "left", "display", "block"})...))
	five := with(below, slices.Concat(green, margins, []string{"display", "block", "font-weight", "700", "font-size", "20px"})...)
	is(t, "5", Style(p.doc, 5, l), five)
	is(t, "6", Style(p.doc, 6, l), with(below, "font-size", "40px", "color", "#010203", "border-top-color", "#010203", "border-right-color", "#010203", "border-bottom-color", "#010203", "border-left-color", "#010203"))
	red := []string{"color", "#ff0000", "border-top-color", "#ff0000", "border-right-color", "#ff0000", "border-bottom-color", "#ff0000", "border-left-color", "#ff0000", "background-color", "#ff0000"}
	is(t, "7", Style(p.doc, 7, l), with(below, slices.Concat(red, dots, []string{"display", "block", "position", "fixed", "margin-top", "1px", "font-weight", "700", "font-size", "20px"})...))
}

// TestStyleOfEachLonghand: P18.4, each longhand set above with each part of its Form, and below not, or with each wide word, or with another value.
func TestStyleOfEachLonghand(t *testing.T) {
	p := begin(t, "a").under(1, "b").under(2, "c")
	for _, x := range oProps() {
		for _, above := range texts(x.name) {
			for _, below := range append([]string{"", "x", "inherit", "initial", "unset"}, texts(x.name)[0]) {
				l := author(t, "b{"+x.name+":"+above+"} c{"+x.name+":"+below+"}")
				for id := 1; id < 4; id++ {
					is(t, x.name+":"+above+" "+below, Style(p.doc, id, l), oStyle(p.doc, id, l))
					is(t, x.name+":"+above+" "+below, told(Get(p.doc, id, l, x.name)), told(oGet(p.doc, id, l, x.name)))
				}
			}
		}
	}
}

// TestInherited: P18.4 and P18.5, what an element has of the one above it, written out: of what Inherits and of what does not.
func TestInherited(t *testing.T) {
	p := begin(t, "a").under(1, "b").under(2, "c")
	for _, x := range []struct{ name, above, own, has string }{
		{"color", "red", "", "#ff0000"}, {"color", "red", "unset", "#ff0000"}, {"color", "red", "inherit", "#ff0000"}, {"color", "red", "initial", "#000000"}, {"color", "red", "blue", "#0000ff"},
		{"width", "7px", "", "auto"}, {"width", "7px", "unset", "auto"}, {"width", "7px", "inherit", "7px"}, {"width", "7px", "initial", "auto"}, {"width", "7px", "8px", "8px"},
		{"font-size", "50%", "", "8px"}, {"font-size", "50%", "inherit", "8px"}, {"font-size", "50%", "initial", "16px"}, {"font-size", "50%", "25%", "2px"}, {"font-size", "20px", "150%", "30px"}, {"font-size", "1000000px", "150%", "1000000px"}, {"font-size", "0", "150%", "0px"},
		{"font-weight", "bold", "", "700"}, {"font-weight", "350", "unset", "350"}, {"font-weight", "bold", "initial", "400"}, {"font-weight", "bold", "normal", "400"},
		{"line-height", "150%", "", "150%"}, {"line-height", "3", "initial", "normal"},
		{"background-color", "currentcolor", "inherit", "#000000"}, {"background-color", "red", "", "transparent"},
		{"border-top-width", "thick", "inherit", "0px"}, {"border-top-style", "solid", "inherit", "solid"}, {"border-top-style", "solid", "", "none"},
		{"display", "inline-block", "inherit", "inline-block"}, {"display", "none", "", "inline"}, {"position", "fixed", "inherit", "fixed"}, {"float", "left", "inherit", "left"},
		{"visibility", "hidden", "", "hidden"}, {"direction", "rtl", "unset", "rtl"}, {"white-space", "pre", "initial", "normal"}, {"z-index", "-3", "inherit", "-3"}, {"order", "-3", "", "0"},
	} {
		gets(t, p, 3, author(t, "b{"+x.name+":"+x.above+"} c{"+x.name+":"+x.own+"}"), x.name, x.has)
	}
	// currentcolor is the element's own color, and what is inherited of it is the parent's.
	l := author(t, "a{color:red} b{color:green;background-color:currentcolor;border-top-color:currentcolor} c{color:blue;background-color:inherit;border-left-color:inherit}")
	for name, want := range map[string]string{"background-color": "#008000", "border-left-color": "#008000", "border-top-color": "#0000ff"} {
		gets(t, p, 3, l, name, want)
	}
	gets(t, p, 1, author(t, "a{color:currentcolor}"), "color", "#000000")
	gets(t, p, 2, author(t, "a{color:red} b{color:currentcolor}"), "color", "#ff0000")
	// The width that is inherited is the parent's Fixed one.
	l = author(t, "b{border-width:thick;border-style:solid} c{border-width:inherit;border-style:solid hidden}")
	for side, want := range map[string]string{"top": "5px", "right": "0px", "bottom": "5px", "left": "0px"} {
		gets(t, p, 3, l, "border-"+side+"-width", want)
	}
	l = author(t, "b{border-width:thick} c{border-width:inherit;border-style:solid}")
	gets(t, p, 3, l, "border-top-width", "0px")
}

// TestRootAndBelow: P18.4, the root stands below the Initials and is a block; an element below is what it is given.
func TestRootAndBelow(t *testing.T) {
	p := begin(t, "a").under(1, "a")
	for display, want := range displays() {
		if !slices.Contains(oForms("display"), display) {
			continue
		}
		l := author(t, "a{display:"+display+"}")
		gets(t, p, 1, l, "display", want)
		gets(t, p, 2, l, "display", display)
	}
	l := author(t, "*{color:inherit;font-size:inherit;width:inherit;display:inherit;border-top-style:inherit}")
	is(t, "all inherited", Style(p.doc, 1, l), Style(p.doc, 1, nil))
	gets(t, p, 2, l, "display", "block")
	gets(t, p, 1, author(t, "*{font-size:200%}"), "font-size", "32px")
	gets(t, p, 2, author(t, "*{font-size:200%}"), "font-size", "64px")
	gets(t, p, 1, author(t, ":root{font-size:inherit}"), "font-size", "16px")
}

// TestStyleOfNone: P18.4, nothing of an id that is none.
func TestStyleOfNone(t *testing.T) {
	l := author(t, "*, :not(q){color:red}")
	d := page{t, some(t)}.remove(5).doc
	for _, id := range []int{-1, 0, 5, 7, 8, 100} {
		is(t, fmt.Sprint(id), Style(d, id, l), nothing())
		is(t, fmt.Sprint(id), told(Get(d, id, l, "color")), told("", api.ErrNoNode))
	}
	for what, d := range unmade() {
		for _, id := range []int{-1, 0, 1, 2} {
			is(t, what, Style(d, id, l), nothing())
			is(t, what, Style(d, id, nil), nothing())
			is(t, what, told(Get(d, id, l, "color")), told("", api.ErrNoNode))
		}
	}
}

// TestGet: P18.4, each longhand of each element.
func TestGet(t *testing.T) {
	p := page{t, some(t)}
	l := newMaker(4).sheets(t, 20)
	for id := 1; id < 8; id++ {
		style := Style(p.doc, id, l)
		is(t, "how many", len(style), 48)
		for i, x := range oProps() {
			gets(t, p, id, l, x.name, style[i])
		}
	}
}

// TestGetOfOthers: P18.4, ErrNoNode comes ahead of ErrProp; a name that is no longhand is ErrProp, a shorthand's too.
func TestGetOfOthers(t *testing.T) {
	d := some(t)
	l := author(t, "*{margin:1px;border-color:red;color:red}")
	for _, name := range []string{"", "x", "margin", "padding", "border-width", "border-style", "border-color", "overflow", "border", "border-top", "Color", "COLOR", "color ", " color", "colo", "colors", "color\x00", "\xff", "--x", "font", strings.Repeat("color", 1<<18)} {
		for _, id := range []int{1, 2, 7} {
			is(t, name, told(Get(d, id, l, name)), told("", api.ErrProp))
			is(t, name, told(Get(d, id, nil, name)), told("", api.ErrProp))
		}
		for _, id := range []int{-1, 0, 8} {
			is(t, name, told(Get(d, id, l, name)), told("", api.ErrNoNode))
		}
		is(t, name, told(Get(nil, 1, l, name)), told("", api.ErrNoNode))
	}
}

// TestStyleBehindChanges: P18.4, the style hangs on the tree and the rules that are handed in: others that were made of them have others.
func TestStyleBehindChanges(t *testing.T) {
	p := page{t, some(t)}
	l := author(t, ".x{font-size:50%} b b{color:red} b:empty{color:blue}")
	gets(t, p, 7, l, "color", "#ff0000")
	gets(t, p, 7, l, "font-size", "8px")
	moved := p.move(7, 4, 0)
	gets(t, moved, 7, l, "font-size", "4px")
	gets(t, moved, 7, l, "color", "#000000")
	gets(t, moved, 5, l, "color", "#0000ff")
	gets(t, moved.set(1, "class", "x"), 7, l, "font-size", "2px")
	gets(t, p, 7, l, "font-size", "8px")
	gets(t, p, 7, l[:1], "color", "#000000")
	gets(t, p, 7, l[1:], "font-size", "16px")
}

// TestStyleByChance: P18.4, all styles of pages below sheets of all origins, against the second telling.
func TestStyleByChance(t *testing.T) {
	m := newMaker(5)
	seen := map[string]bool{}
	for range 250 {
		d, l := m.tree(t, 30, 10), m.sheets(t, 15)
		for id := range d.Next() + 1 {
			got, want := Style(d, id, l), oStyle(d, id, l)
			if !slices.Equal(got, want) {
				is(t, fmt.Sprint("of ", id), got, want)
			}
			seen[fmt.Sprint(got)] = true
			name := m.pick(names()...)
			is(t, name, told(Get(d, id, l, name)), told(oGet(d, id, l, name)))
		}
	}
	is(t, "many were seen", len(seen) > 1000, true)
}
