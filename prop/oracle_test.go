package prop

import (
	"slices"
	"strings"
)

// chapter: the chapter's table, as it is written there.
const chapter = `
| display | inline | no | block / inline / inline-block / flex / grid / none / contents / table |
| position | static | no | static / relative / absolute / fixed / sticky |
| float | none | no | left / right / none |
| clear | none | no | left / right / both / none |
| visibility | visible | yes | visible / hidden / collapse |
| overflow-x | visible | no | visible / hidden / clip / scroll / auto |
| overflow-y | visible | no | visible / hidden / clip / scroll / auto |
| box-sizing | content-box | no | content-box / border-box |
| width | auto | no | auto / <len+> / <pct+> |
| height | auto | no | auto / <len+> / <pct+> |
| min-width | auto | no | auto / <len+> / <pct+> |
| min-height | auto | no | auto / <len+> / <pct+> |
| max-width | none | no | none / <len+> / <pct+> |
| max-height | none | no | none / <len+> / <pct+> |
| margin-top | 0px | no | auto / <len> / <pct> |
| margin-right | 0px | no | auto / <len> / <pct> |
| margin-bottom | 0px | no | auto / <len> / <pct> |
| margin-left | 0px | no | auto / <len> / <pct> |
| padding-top | 0px | no | <len+> / <pct+> |
| padding-right | 0px | no | <len+> / <pct+> |
| padding-bottom | 0px | no | <len+> / <pct+> |
| padding-left | 0px | no | <len+> / <pct+> |
| border-top-width | medium | no | thin / medium / thick / <len+> |
| border-right-width | medium | no | thin / medium / thick / <len+> |
| border-bottom-width | medium | no | thin / medium / thick / <len+> |
| border-left-width | medium | no | thin / medium / thick / <len+> |
| border-top-style | none | no | none / hidden / dotted / dashed / solid / double |
| border-right-style | none | no | none / hidden / dotted / dashed / solid / double |
| border-bottom-style | none | no | none / hidden / dotted / dashed / solid / double |
| border-left-style | none | no | none / hidden / dotted / dashed / solid / double |
| border-top-color | currentcolor | no | currentcolor / transparent / <color> |
| border-right-color | currentcolor | no | currentcolor / transparent / <color> |
| border-bottom-color | currentcolor | no | currentcolor / transparent / <color> |
| border-left-color | currentcolor | no | currentcolor / transparent / <color> |
| top | auto | no | auto / <len> / <pct> |
| right | auto | no | auto / <len> / <pct> |
| bottom | auto | no | auto / <len> / <pct> |
| left | auto | no | auto / <len> / <pct> |
| color | #000000 | yes | <color> |
| background-color | transparent | no | transparent / currentcolor / <color> |
| font-size | 16px | yes | <len+> / <pct+> |
| font-weight | normal | yes | normal / bold / <int+> |
| line-height | normal | yes | normal / <int+> / <len+> / <pct+> |
| text-align | start | yes | start / end / left / right / center / justify |
| white-space | normal | yes | normal / nowrap / pre / pre-wrap |
| direction | ltr | yes | ltr / rtl |
| order | 0 | no | <int> |
| z-index | auto | no | auto / <int> |
`

// oAll: the table's rows, cut anew.
func oAll() []Prop {
	var out []Prop
	for line := range strings.Lines(strings.TrimSpace(chapter)) {
		c := strings.Split(strings.Trim(line, "|\n"), "|")
		out = append(out, Prop{Name: strings.TrimSpace(c[0]), Initial: strings.TrimSpace(c[1]), Inherits: strings.TrimSpace(c[2]) == "yes", Form: strings.ReplaceAll(strings.TrimSpace(c[3]), " / ", "\u007c")})
	}
	return out
}

// oPlace: the place of a name in the table; -1: there is none.
func oPlace(name string) int {
	return slices.IndexFunc(oAll(), func(p Prop) bool { return p.Name == name })
}

// oForms: the parts of a text, character by character.
func oForms(form string) []string {
	out := []string{""}
	for i := range len(form) {
		if form[i] == 0x7c {
			out = append(out, "")
		} else {
			out[len(out)-1] += form[i : i+1]
		}
	}
	return out
}

// oShort: a shorthand, and its longhands.
type oShort struct {
	name  string
	longs []string
}

// oShorts: the shorthands in the order in which the chapter names them.
func oShorts() []oShort {
	return []oShort{
		{"margin", []string{"margin-top", "margin-right", "margin-bottom", "margin-left"}},
		{"padding", []string{"padding-top", "padding-right", "padding-bottom", "padding-left"}},
		{"border-width", []string{"border-top-width", "border-right-width", "border-bottom-width", "border-left-width"}},
		{"border-style", []string{"border-top-style", "border-right-style", "border-bottom-style", "border-left-style"}},
		{"border-color", []string{"border-top-color", "border-right-color", "border-bottom-color", "border-left-color"}},
		{"overflow", []string{"overflow-x", "overflow-y"}},
	}
}

// oLongs: a shorthand's longhands; of another name none.
func oLongs(name string) []string {
	for _, s := range oShorts() {
		if s.name == name {
			return s.longs
		}
	}
	return nil
}
