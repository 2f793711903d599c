package compute

import (
	"slices"
	"strconv"

	"gouache/prop"
	"gouache/value"
)

const (
	// biggest: no font-size is scaled beyond it.
	biggest = 1000000
	// usual: the font-size below one that is no number of px.
	usual = 16
)

// style is the values of all longhands, in prop's order.
type style []string

// styleOf: a list in new memory, if it is a style; else the Initials.
func styleOf(l []string) style {
	first := Initial()
	if len(l) != len(first) {
		return first
	}
	return slices.Clone(l)
}

func (s style) get(name string) string { return s[prop.Place(name)] }

func (s style) set(name, to string) { s[prop.Place(name)] = to }

// scale: a font-size in percent is so much of the one above.
func (s style) scale(above string) {
	percent, unit, _ := value.Number(s.get("font-size"))
	if unit != "%" {
		return
	}
	size := min(int64(pixels(above))*int64(percent)/100, biggest)
	s.set("font-size", strconv.FormatInt(size, 10)+"px")
}

// weigh: font-weights that are words are numbers.
func (s style) weigh() {
	switch s.get("font-weight") {
	case "normal":
		s.set("font-weight", "400")
	case "bold":
		s.set("font-weight", "700")
	}
}

// draw: widths of borders that are words are lengths, and where no border is drawn there is no width.
func (s style) draw() {
	lines := prop.Longs("border-style") // side by side in the same order
	for side, name := range prop.Longs("border-width") {
		switch s.get(lines[side]) {
		case "none", "hidden":
			s.set(name, "0px")
		default:
			s.set(name, length(s.get(name)))
		}
	}
}

// dye: a colour that is currentcolor is the value of color.
func (s style) dye() {
	color := s.get("color")
	for _, name := range append(prop.Longs("border-color"), "background-color") {
		if s.get(name) == "currentcolor" {
			s.set(name, color)
		}
	}
}

// lift: what is taken out of the flow does not float.
func (s style) lift() {
	if s.out() {
		s.set("float", "none")
	}
}

// block: what floats, is taken out of the flow, or is the root does not stand in a line.
func (s style) block(root bool) {
	if !root && !s.out() && s.get("float") == "none" {
		return
	}
	switch s.get("display") {
	case "inline", "inline-block":
		s.set("display", "block")
	}
}

// out: is it taken out of the flow by its position?
func (s style) out() bool {
	position := s.get("position")
	return position == "absolute" || position == "fixed"
}

// pixels: a font-size's number.
func pixels(size string) int {
	if n, unit, _ := value.Number(size); unit == "px" {
		return n
	}
	return usual
}

// length: a border's width, a word or a length, as a length.
func length(width string) string {
	switch width {
	case "thin":
		return "1px"
	case "medium":
		return "3px"
	case "thick":
		return "5px"
	}
	return width
}
