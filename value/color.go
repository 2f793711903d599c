package value

import (
	"strings"

	"gouache/text"
)

// color: a colour that has a name.
type color struct {
	name, tells string
}

// colors: those that have one.
var colors = [...]color{
	{"black", "#000000"},
	{"white", "#ffffff"},
	{"red", "#ff0000"},
	{"green", "#008000"},
	{"blue", "#0000ff"},
	{"gray", "#808080"},
	{"yellow", "#ffff00"},
	{"purple", "#800080"},
}

// named: the colour of a name.
func named(name string) (string, bool) {
	name = text.Fold(name)
	for _, c := range colors {
		if c.name == name {
			return c.tells, true
		}
	}
	return "", false
}

// dyed: the colour of three or six digits to base 16.
func dyed(digits string) (string, bool) {
	times := 1
	switch len(digits) {
	case 3:
		times = 2
	case 6:
	default:
		return "", false
	}
	out := "#"
	for _, c := range digits {
		if text.Hex(c) < 0 {
			return "", false
		}
		out += strings.Repeat(text.Fold(string(c)), times)
	}
	return out, true
}
