package short

import (
	"regexp"
	"strings"

	"gouache/api"
	"gouache/prop"
	"gouache/value"
)

// shorthand: a shorthand as the chapters tell it: its longhands, five texts that each of them reads, and what these are told as; and a text that none reads.
type shorthand struct {
	name   string
	longs  []string
	texts  []string
	values []string
	wrong  string
}

func shorthands() []shorthand {
	return []shorthand{
		{"border-color", strings.Fields("border-top-color border-right-color border-bottom-color border-left-color"), strings.Fields("RED #0aF Transparent currentColor #ABCDEF"), strings.Fields("#ff0000 #00aaff transparent currentcolor #abcdef"), "1px"},
		{"border-style", strings.Fields("border-top-style border-right-style border-bottom-style border-left-style"), strings.Fields("solid DASHED None double hidden"), strings.Fields("solid dashed none double hidden"), "auto"},
		{"border-width", strings.Fields("border-top-width border-right-width border-bottom-width border-left-width"), strings.Fields("thin MEDIUM 007px 0 Thick"), strings.Fields("thin medium 7px 0px thick"), "-1px"},
		{"margin", strings.Fields("margin-top margin-right margin-bottom margin-left"), strings.Fields("-1PX +2% AUTO 0 40px"), strings.Fields("-1px 2% auto 0px 40px"), "none"},
		{"overflow", strings.Fields("overflow-x overflow-y"), strings.Fields("Hidden CLIP scroll auto visible"), strings.Fields("hidden clip scroll auto visible"), "none"},
		{"padding", strings.Fields("padding-top padding-right padding-bottom padding-left"), strings.Fields("1px 2% 0 50% 9999999px"), strings.Fields("1px 2% 0px 50% 1000000px"), "auto"},
	}
}

// oSides: the chapter's rows, as they are written.
var oSides = []string{1: "0000", 2: "0101", 3: "0121", 4: "0123"}

func oSide(n, side int) int {
	for many, row := range oSides {
		for place, c := range row {
			if many == n && place == side {
				return strings.IndexRune("0123", c)
			}
		}
	}
	return -1
}

// oSpread: the four that one to four things come to, told by what stands in for one that is missing: the right one's the top one, the bottom one's the top one, the left one's the right one.
func oSpread[T any](l []T) [4]T {
	out := [4]T{l[0], l[0], l[0], l[0]}
	if len(l) > 1 {
		out[1], out[3] = l[1], l[1]
	}
	if len(l) > 2 {
		out[2] = l[2]
	}
	if len(l) > 3 {
		out[3] = l[3]
	}
	return out
}

var oPart = regexp.MustCompile(`x+`)

// oCut: the parts of a value, by an expression over a letter for each of its values.
func oCut(l []api.Value) [][]api.Value {
	var kinds strings.Builder
	for _, v := range l {
		if v.Token.Kind == 13 {
			kinds.WriteByte(' ')
		} else {
			kinds.WriteByte('x')
		}
	}
	var out [][]api.Value
	for _, m := range oPart.FindAllStringIndex(kinds.String(), -1) {
		out = append(out, l[m[0]:m[1]])
	}
	return out
}

func oExpand(d api.Decl) []Long {
	wide := value.Wide(d.Value)
	for _, p := range prop.All() {
		if p.Name != d.Name {
			continue
		}
		if wide != "" {
			return []Long{{p.Name, wide, d.Important}}
		}
		if s, ok := value.Parse(p.Name, d.Value); ok {
			return []Long{{p.Name, s, d.Important}}
		}
	}
	for _, s := range shorthands() {
		if s.name == d.Name && wide != "" {
			return oLongs(s.longs, func(int) string { return wide }, d.Important)
		}
		if s.name == d.Name {
			return oShorthand(s, d)
		}
	}
	return nil
}

// oLongs: longhands with what a function tells of their places; nothing, if it tells nothing of one.
func oLongs(names []string, tells func(int) string, important bool) []Long {
	var out []Long
	for i, name := range names {
		s := tells(i)
		if s == "" {
			return nil
		}
		out = append(out, Long{name, s, important})
	}
	return out
}

func oShorthand(s shorthand, d api.Decl) []Long {
	parts := oCut(d.Value)
	if len(parts) < 1 || len(parts) > 4 || s.name == "overflow" && len(parts) > 2 {
		return nil
	}
	mine := oSpread(parts)
	if s.name == "overflow" {
		mine = [4][]api.Value{parts[0], parts[len(parts)-1]}
	}
	return oLongs(s.longs, func(i int) string {
		if len(mine[i]) != 1 {
			return ""
		}
		text, _ := value.Parse(s.longs[i], mine[i])
		return text
	}, d.Important)
}

// oJoin: of all lists of one to four parts that come to l, each part one of l's, the one whose text is the shortest.
func oJoin(name string, l []string) (string, bool) {
	for _, s := range shorthands() {
		if s.name != name || len(s.longs) != len(l) {
			continue
		}
		best, found := "", false
		for _, parts := range lists(l, len(l)) {
			if len(parts) == 0 || !oComes(parts, l) {
				continue
			}
			if text := strings.Join(parts, " "); !found || len(text) < len(best) {
				best, found = text, true
			}
		}
		return best, found
	}
	return "", false
}

// oComes: parts come to a list of four, or of the two of overflow.
func oComes(parts, l []string) bool {
	if len(l) == 2 {
		return parts[0] == l[0] && parts[len(parts)-1] == l[1]
	}
	return oSpread(parts) == [4]string(l)
}
