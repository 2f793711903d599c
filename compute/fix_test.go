package compute

import (
	"fmt"
	"slices"
	"strconv"
	"testing"
)

// fixes: what Fix makes of quiet, changed at these places, is quiet, changed at those.
func fixes(t *testing.T, parent []string, root bool, given, want []string) {
	t.Helper()
	from := with(quiet(), given...)
	is(t, fmt.Sprint(given), Fix(parent, from, root), with(from, want...))
}

// TestQuiet: P18.3, a style that no step is for stays, but for the root's display.
func TestQuiet(t *testing.T) {
	is(t, "quiet", Fix(nil, quiet(), false), quiet())
	is(t, "the root", Fix(nil, quiet(), true), with(quiet(), "display", "block"))
	is(t, "marked", Fix(marked("P"), with(marked("G"), "float", "none"), false), with(marked("G"), "float", "none"))
}

// TestScale: P18.3, step 1: a font-size in percent of the parent's.
func TestScale(t *testing.T) {
	type row struct{ parent, given, want string }
	for _, x := range []row{
		{"16px", "50%", "8px"}, {"8px", "50%", "4px"}, {"4px", "50%", "2px"}, {"2px", "50%", "1px"}, {"1px", "50%", "0px"}, {"0px", "50%", "0px"},
		{"16px", "100%", "16px"}, {"16px", "0%", "0px"}, {"16px", "1000%", "160px"}, {"10px", "150%", "15px"},
		// Cut, not rounded.
		{"7px", "33%", "2px"}, {"3px", "33%", "0px"}, {"1px", "99%", "0px"}, {"1px", "199%", "1px"}, {"199px", "1%", "1px"}, {"99px", "99%", "98px"},
		// At most 1000000.
		{"1000000px", "100%", "1000000px"}, {"1000000px", "99%", "990000px"}, {"1000000px", "101%", "1000000px"}, {"1000000px", "1000000%", "1000000px"},
		{"999999px", "100%", "999999px"}, {"100px", "1000000%", "1000000px"}, {"100px", "999999%", "999999px"}, {"101px", "1000000%", "1000000px"}, {"10000px", "10001%", "1000000px"},
		// What value's Number cuts.
		{"1000001px", "50%", "500000px"}, {"99999999999999999999999px", "50%", "500000px"}, {"16px", "99999999999999999999999%", "160000px"},
		// 16 stands for what is none, or is not px.
		{"50%", "50%", "8px"}, {"50", "50%", "8px"}, {"", "50%", "8px"}, {"x", "50%", "8px"}, {"1.5px", "50%", "8px"}, {"+9px", "50%", "8px"}, {"9PX", "50%", "8px"}, {"9em", "50%", "8px"}, {" 9px", "50%", "8px"}, {"px", "50%", "8px"}, {"-px", "50%", "8px"}, {"medium", "200%", "32px"},
		// Below 0: cut toward 0.
		{"16px", "-50%", "-8px"}, {"7px", "-33%", "-2px"}, {"1px", "-99%", "0px"}, {"-7px", "33%", "-2px"}, {"-7px", "-33%", "2px"}, {"-1000000px", "-1000000%", "1000000px"}, {"-1000000px", "1000000%", "-10000000000px"}, {"1000000px", "-99999999999999999999%", "-10000000000px"},
		{"16px", "-0%", "0px"}, {"16px", "050%", "8px"}, {"016px", "50%", "8px"},
		// What is no number in percent stays.
		{"8px", "10px", "10px"}, {"8px", "5", "5"}, {"8px", "", ""}, {"8px", "%", "%"}, {"8px", "x%", "x%"}, {"8px", "+5%", "+5%"}, {"8px", "5 %", "5 %"}, {"8px", "1.5%", "1.5%"}, {"8px", "5%%", "5%%"}, {"8px", "larger", "larger"}, {"8px", "2000000px", "2000000px"},
	} {
		fixes(t, with(marked("P"), "font-size", x.parent), false, []string{"font-size", x.given}, []string{"font-size", x.want})
		fixes(t, with(marked("P"), "font-size", x.parent), true, []string{"font-size", x.given}, []string{"font-size", x.want, "display", "block"})
	}
}

// TestScaleOfAll: step 1, of many numbers, against one without bounds.
func TestScaleOfAll(t *testing.T) {
	numbers := []int{-1000001, -1000000, -101, -100, -99, -1}
	for n := range 130 {
		numbers = append(numbers, n)
	}
	numbers = append(numbers, 999, 1000, 9999, 10000, 10001, 999999, 1000000, 1000001)
	place := oPlace("font-size")
	for _, m := range numbers {
		parent := with(oInitial(), "font-size", strconv.Itoa(m)+"px")
		given := quiet()
		for _, n := range numbers {
			given[place] = strconv.Itoa(n) + "%"
			if got, want := Fix(parent, given, false)[place], oSize(parent[place], given[place]); got != want {
				t.Errorf("%s of %s: %s, want %s", given[place], parent[place], got, want)
			}
		}
	}
}

// TestScaleAlone: step 1 is for font-size alone.
func TestScaleAlone(t *testing.T) {
	var given []string
	for _, p := range oProps() {
		if p.name != "font-size" && p.name != "float" {
			given = append(given, p.name, "50%")
		}
	}
	fixes(t, nil, false, given, nil)
	fixes(t, with(marked("P"), "font-size", "30px"), false, append(given, "font-size", "50%"), []string{"font-size", "15px"})
}

// TestScaleOfNoParent: step 1, below a parent that is none, or of another length, it is the Initial's.
func TestScaleOfNoParent(t *testing.T) {
	long := slices.Repeat([]string{"100px"}, 100)
	for n := range 101 {
		want := "8px"
		if n == 48 {
			want = "50px"
		}
		fixes(t, long[:n], false, []string{"font-size", "50%"}, []string{"font-size", want})
	}
	fixes(t, nil, false, []string{"font-size", "50%"}, []string{"font-size", "8px"})
}

// TestWeigh: P18.3, step 2.
func TestWeigh(t *testing.T) {
	for _, root := range []bool{false, true} {
		display := map[bool]string{false: "inline", true: "block"}[root]
		for given, want := range map[string]string{"normal": "400", "bold": "700", "400": "400", "700": "700", "0": "0", "550": "550", "Bold": "Bold", "NORMAL": "NORMAL", "bold ": "bold ", "bolder": "bolder", "": "", "50%": "50%"} {
			fixes(t, marked("P"), root, []string{"font-weight", given}, []string{"font-weight", want, "display", display})
		}
	}
	fixes(t, nil, false, []string{"line-height", "normal", "white-space", "normal", "text-align", "bold", "color", "normal"}, nil)
}

// TestDraw: P18.3, step 3, each side with each style and each width; the other sides stay.
func TestDraw(t *testing.T) {
	widths := map[string]string{"thin": "1px", "medium": "3px", "thick": "5px", "0px": "0px", "1px": "1px", "7px": "7px", "": "", "x": "x", "Thin": "Thin", "medium ": "medium ", "50%": "50%", "none": "none"}
	styles := map[string]bool{"none": false, "hidden": false, "dotted": true, "dashed": true, "solid": true, "double": true, "": true, "None": true, "HIDDEN": true, "x": true, "hidden ": true}
	for _, side := range sides() {
		for style, drawn := range styles {
			for width, want := range widths {
				if !drawn {
					want = "0px"
				}
				fixes(t, marked("P"), false, []string{"border-" + side + "-style", style, "border-" + side + "-width", width}, []string{"border-" + side + "-width", want})
			}
		}
	}
	fixes(t, nil, false, []string{"width", "thin", "line-height", "medium", "top", "thick", "overflow-x", "hidden", "visibility", "hidden", "max-width", "none"}, nil)
}

// TestDrawOfAllSides: step 3, all sides at once, each with its own style and width.
func TestDrawOfAllSides(t *testing.T) {
	styles, widths := []string{"none", "solid", "hidden", "double"}, []string{"thin", "thick", "9px", "medium"}
	for turn := range 16 {
		given, want := quiet(), quiet()
		for i, side := range sides() {
			style, width := styles[(i+turn)%4], widths[(i+turn/4)%4]
			given = with(given, "border-"+side+"-style", style, "border-"+side+"-width", width)
			fixed := map[string]string{"thin": "1px", "thick": "5px", "9px": "9px", "medium": "3px"}[width]
			if style == "none" || style == "hidden" {
				fixed = "0px"
			}
			want = with(want, "border-"+side+"-style", style, "border-"+side+"-width", fixed)
		}
		is(t, fmt.Sprint("turn ", turn), Fix(marked("P"), given, false), want)
	}
}

// TestDye: P18.3, step 4, each colour but color itself, alone and all at once.
func TestDye(t *testing.T) {
	colours := []string{"background-color"}
	for _, side := range sides() {
		colours = append(colours, "border-"+side+"-color")
	}
	parent := with(marked("P"), "color", "#999999")
	for _, color := range []string{"#000000", "#ff0000", "currentcolor", "", "x", "transparent"} {
		all, fixed := []string{"color", color}, []string{}
		for _, name := range colours {
			fixes(t, parent, false, []string{"color", color, name, "currentcolor"}, []string{name, color})
			for _, other := range []string{"transparent", "#00ff00", "", "x", "CurrentColor", "currentcolor ", "inherit"} {
				fixes(t, parent, false, []string{"color", color, name, other}, nil)
			}
			all, fixed = append(all, name, "currentcolor"), append(fixed, name, color)
		}
		fixes(t, parent, false, all, fixed)
	}
	fixes(t, parent, false, []string{"color", "currentcolor"}, nil)
	fixes(t, parent, false, []string{"color", "#ff0000", "width", "currentcolor", "order", "currentcolor", "direction", "currentcolor"}, nil)
}

// displays: each display, and what it is as a block.
func displays() map[string]string {
	out := map[string]string{"inline": "block", "inline-block": "block", "": "", "x": "x", "Inline": "Inline", "inline-flex": "inline-flex", "inline ": "inline "}
	for _, s := range []string{"block", "flex", "grid", "none", "contents", "table"} {
		out[s] = s
	}
	return out
}

// positions: each position, and whether it takes out of the flow.
func positions() map[string]bool {
	return map[string]bool{"static": false, "relative": false, "absolute": true, "fixed": true, "sticky": false, "": false, "x": false, "Absolute": false, "fixed ": false}
}

// TestLift: P18.3, step 5, each float with each position.
func TestLift(t *testing.T) {
	for position, out := range positions() {
		for _, float := range []string{"left", "right", "none", "", "x", "None"} {
			want := float
			if out {
				want = "none"
			}
			fixes(t, marked("P"), false, []string{"display", "table", "position", position, "float", float}, []string{"float", want})
		}
	}
	fixes(t, nil, false, []string{"display", "flex", "position", "absolute", "clear", "left", "text-align", "right"}, nil)
}

// TestBlock: P18.3, step 6, each display with each float, each position, of the root and of an element below.
func TestBlock(t *testing.T) {
	for display, block := range displays() {
		for position, out := range positions() {
			for _, float := range []string{"left", "right", "none", "", "x"} {
				for _, root := range []bool{false, true} {
					want := []string{"display", display, "float", float}
					if out {
						want[3] = "none"
					}
					if out || root || float != "none" {
						want[1] = block
					}
					fixes(t, marked("P"), root, []string{"display", display, "position", position, "float", float}, want)
				}
			}
		}
	}
}

// TestBlockOfTheParent: P18.3, what the parent is makes no difference, but for its font-size.
func TestBlockOfTheParent(t *testing.T) {
	given := with(oInitial(), "border-top-style", "solid", "background-color", "currentcolor")
	want := Fix(nil, given, false)
	is(t, "want", want, with(quiet(), "border-top-style", "solid", "border-top-width", "3px", "background-color", "#000000"))
	for i := range oProps() {
		for _, s := range []string{"absolute", "left", "hidden", "currentcolor", "50%", "block", ""} {
			parent := oInitial()
			parent[i] = s
			is(t, s, Fix(parent, given, false), want)
		}
	}
}

// TestFixOfNoStyle: P18.3, of a given that is none, or of another length, the Initials are taken.
func TestFixOfNoStyle(t *testing.T) {
	below := with(quiet(), "background-color", "transparent")
	root := with(below, "display", "block")
	is(t, "of the Initials", []any{Fix(nil, oInitial(), false), Fix(nil, oInitial(), true)}, []any{below, root})
	is(t, "of nil", []any{Fix(nil, nil, false), Fix(marked("P"), nil, true)}, []any{below, root})
	long := slices.Concat(marked("G"), marked("H"), marked("I"))
	for n := range len(long) + 1 {
		if n == 48 {
			continue
		}
		is(t, fmt.Sprint(n, " values"), Fix(marked("P"), long[:n], false), below)
		is(t, fmt.Sprint(n, " values, the root"), Fix(long[:n], long[:n], true), root)
	}
	is(t, "very many", Fix(nil, slices.Repeat([]string{"50%"}, 1<<20), false), below)
}

// TestFixOfAll: P18.3, all steps at once, each of which looks at what is there for it.
func TestFixOfAll(t *testing.T) {
	parent := with(oInitial(), "font-size", "30px")
	given := with(oInitial(), "font-size", "150%", "font-weight", "bold", "border-left-style", "solid", "border-left-width", "thick", "border-top-width", "9px", "color", "#123456", "background-color", "currentcolor", "border-left-color", "#ff0000", "position", "fixed", "float", "left")
	want := with(oInitial(), "font-size", "45px", "font-weight", "700", "border-left-style", "solid", "border-left-width", "5px", "border-top-width", "0px", "border-right-width", "0px", "border-bottom-width", "0px",
		"color", "#123456", "background-color", "#123456", "border-left-color", "#ff0000", "border-top-color", "#123456", "border-right-color", "#123456", "border-bottom-color", "#123456", "position", "fixed", "float", "none", "display", "block")
	is(t, "all", Fix(parent, given, false), want)
	is(t, "all of the root", Fix(parent, given, true), want)
}

// TestFixOfTwoSteps: P18.3, each two things that steps look at, against the second telling.
func TestFixOfTwoSteps(t *testing.T) {
	parent := with(oInitial(), "font-size", "30px", "color", "#777777")
	pairs := [][]string{{"font-size", "40%"}, {"font-weight", "bold"}, {"color", "currentcolor"}, {"color", "none"}, {"background-color", "currentcolor"}, {"position", "absolute"}, {"position", "fixed"}, {"position", "sticky"}, {"float", "right"}, {"float", "none"}, {"display", "inline-block"}, {"display", "none"}}
	for _, side := range sides() {
		pairs = append(pairs, []string{"border-" + side + "-style", "dotted"}, []string{"border-" + side + "-style", "hidden"}, []string{"border-" + side + "-width", "thick"}, []string{"border-" + side + "-width", "8px"}, []string{"border-" + side + "-color", "#ff0000"})
	}
	for _, l := range lists(pairs, 2) {
		given := with(oInitial(), slices.Concat(l...)...)
		for _, root := range []bool{false, true} {
			if got, want := Fix(parent, given, root), oFix(parent, given, root); !slices.Equal(got, want) {
				is(t, fmt.Sprint(l, root), got, want)
			}
		}
	}
}

// TestFixByChance: P18.3, of values that stand in other places too, against the second telling.
func TestFixByChance(t *testing.T) {
	m := newMaker(3)
	words := []string{"50%", "7px", "normal", "bold", "thin", "medium", "thick", "none", "hidden", "solid", "currentcolor", "#ff0000", "absolute", "fixed", "left", "inline", "inline-block", "block", ""}
	for range 10000 {
		parent, given := oInitial(), oInitial()
		for i, p := range oProps() {
			parent[i], given[i] = m.pick(append(oForms(p.name), words...)...), m.pick(append(oForms(p.name), words...)...)
			if m.Intn(2) == 0 {
				given[i] = m.pick(append(oForms(p.name), p.initial)...)
			}
		}
		root := m.Intn(2) == 0
		if got, want := Fix(parent, given, root), oFix(parent, given, root); !slices.Equal(got, want) {
			is(t, fmt.Sprint(given, root), got, want)
		}
	}
}
