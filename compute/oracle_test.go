package compute

import (
	"math/big"
	"regexp"
	"slices"
	"strings"

	"gouache/api"
	"gouache/cascade"
	"gouache/dom"
	"gouache/match"
	"gouache/selector"
	"gouache/sheet"
	"gouache/short"
)

// chapter: chapter 14's longhands: name, Initial, whether it Inherits, Form.
const chapter = `
display inline no block|inline|inline-block|flex|grid|none|contents|table
position static no static|relative|absolute|fixed|sticky
float none no left|right|none
clear none no left|right|both|none
visibility visible yes visible|hidden|collapse
overflow-x visible no visible|hidden|clip|scroll|auto
overflow-y visible no visible|hidden|clip|scroll|auto
box-sizing content-box no content-box|border-box
width auto no auto|<len+>|<pct+>
height auto no auto|<len+>|<pct+>
min-width auto no auto|<len+>|<pct+>
min-height auto no auto|<len+>|<pct+>
max-width none no none|<len+>|<pct+>
max-height none no none|<len+>|<pct+>
margin-top 0px no auto|<len>|<pct>
margin-right 0px no auto|<len>|<pct>
margin-bottom 0px no auto|<len>|<pct>
margin-left 0px no auto|<len>|<pct>
padding-top 0px no <len+>|<pct+>
padding-right 0px no <len+>|<pct+>
padding-bottom 0px no <len+>|<pct+>
padding-left 0px no <len+>|<pct+>
border-top-width medium no thin|medium|thick|<len+>
border-right-width medium no thin|medium|thick|<len+>
border-bottom-width medium no thin|medium|thick|<len+>
border-left-width medium no thin|medium|thick|<len+>
border-top-style none no none|hidden|dotted|dashed|solid|double
border-right-style none no none|hidden|dotted|dashed|solid|double
border-bottom-style none no none|hidden|dotted|dashed|solid|double
border-left-style none no none|hidden|dotted|dashed|solid|double
border-top-color currentcolor no currentcolor|transparent|<color>
border-right-color currentcolor no currentcolor|transparent|<color>
border-bottom-color currentcolor no currentcolor|transparent|<color>
border-left-color currentcolor no currentcolor|transparent|<color>
top auto no auto|<len>|<pct>
right auto no auto|<len>|<pct>
bottom auto no auto|<len>|<pct>
left auto no auto|<len>|<pct>
color #000000 yes <color>
background-color transparent no transparent|currentcolor|<color>
font-size 16px yes <len+>|<pct+>
font-weight normal yes normal|bold|<int+>
line-height normal yes normal|<int+>|<len+>|<pct+>
text-align start yes start|end|left|right|center|justify
white-space normal yes normal|nowrap|pre|pre-wrap
direction ltr yes ltr|rtl
order 0 no <int>
z-index auto no auto|<int>
`

// oProp is a row of it.
type oProp struct {
	name, initial string
	inherits      bool
	form          string
}

var oRows []oProp

// oProps: its rows.
func oProps() []oProp { return oRows }

func init() {
	for line := range strings.Lines(strings.TrimSpace(chapter)) {
		c := strings.Fields(line)
		oRows = append(oRows, oProp{c[0], c[1], c[2] == "yes", c[3]})
	}
}

func oPlace(name string) int {
	return slices.IndexFunc(oRows, func(p oProp) bool { return p.name == name })
}

func oForms(name string) []string {
	for _, p := range oRows {
		if p.name == name {
			return strings.Split(p.form, "|")
		}
	}
	return nil
}

func oInitial() []string {
	var out []string
	for _, p := range oRows {
		out = append(out, p.initial)
	}
	return out
}

// oEntries: each rule, each of its selectors and each of its declarations for itself.
func oEntries(d *dom.Doc, id int, l []sheet.Placed) []cascade.Entry {
	var out []cascade.Entry
	for place, p := range l {
		var specs []api.Spec
		for _, c := range p.Rule.Selector {
			if match.Complex(d, id, c) {
				specs = append(specs, selector.Of(c))
			}
		}
		if len(specs) == 0 {
			continue
		}
		best := slices.MaxFunc(specs, func(a, b api.Spec) int {
			return slices.Compare([]int{a.A, a.B, a.C}, []int{b.A, b.B, b.C})
		})
		for _, decl := range p.Rule.Decls {
			for _, x := range short.Expand(decl) {
				out = append(out, cascade.Entry{Name: x.Name, Value: x.Value, Origin: p.Origin, Important: x.Important, Spec: best, Order: place})
			}
		}
	}
	return out
}

// oRank: where an entry stands among the ranks, from the least on.
func oRank(e cascade.Entry) int {
	return 1 + slices.Index([]cascade.Entry{
		{Origin: 1}, {Origin: 2}, {Origin: 3},
		{Origin: 3, Important: true}, {Origin: 2, Important: true}, {Origin: 1, Important: true},
	}, cascade.Entry{Origin: e.Origin, Important: e.Important})
}

// oWinner: of a name the last one over which none ahead of it wins.
func oWinner(l []cascade.Entry, name string) (cascade.Entry, bool) {
	numbers := func(e cascade.Entry) []int { return []int{oRank(e), e.Spec.A, e.Spec.B, e.Spec.C, e.Order} }
	var best cascade.Entry
	found := false
	for _, e := range l {
		if e.Name == name && (!found || slices.Compare(numbers(e), numbers(best)) >= 0) {
			best, found = e, true
		}
	}
	return best, found
}

func oGiven(parent []string, l []cascade.Entry) []string {
	above := oStyled(parent)
	out := map[string]string{}
	for _, p := range oRows {
		e, ok := oWinner(l, p.name)
		fromAbove := !ok || e.Value == "unset"
		switch {
		case ok && e.Value == "inherit", fromAbove && p.inherits:
			out[p.name] = above[p.name]
		case ok && e.Value == "initial", fromAbove:
			out[p.name] = p.initial
		default:
			out[p.name] = e.Value
		}
	}
	return oListed(out)
}

// oStyled: the values of a style by their names; the Initials, if it is none.
func oStyled(l []string) map[string]string {
	if len(l) != 48 {
		l = oInitial()
	}
	out := map[string]string{}
	for i, p := range oRows {
		out[p.name] = l[i]
	}
	return out
}

func oListed(m map[string]string) []string {
	var out []string
	for _, p := range oRows {
		out = append(out, m[p.name])
	}
	return out
}

var (
	oPercent = regexp.MustCompile(`^(-?[0-9]+)%$`)
	oPixels  = regexp.MustCompile(`^(-?[0-9]+)px$`)
)

// oCut: a number without bounds, cut at both of value's.
func oCut(digits string) *big.Int {
	n, _ := new(big.Int).SetString(digits, 10)
	for _, end := range []int64{-1000000, 1000000} {
		if e := big.NewInt(end); n.CmpAbs(e) > 0 && n.Sign() == e.Sign() {
			n = e
		}
	}
	return n
}

func oSize(above, own string) string {
	n := oPercent.FindStringSubmatch(own)
	if n == nil {
		return own
	}
	m := big.NewInt(16)
	if px := oPixels.FindStringSubmatch(above); px != nil {
		m = oCut(px[1])
	}
	size := m.Mul(m, oCut(n[1]))
	size.Quo(size, big.NewInt(100))
	if most := big.NewInt(1000000); size.Cmp(most) > 0 {
		size = most
	}
	return size.String() + "px"
}

// oFix: each value for itself, from the given ones.
func oFix(parent, given []string, root bool) []string {
	above, was, out := oStyled(parent), oStyled(given), oStyled(given)
	out["font-size"] = oSize(above["font-size"], was["font-size"])
	if w, ok := map[string]string{"normal": "400", "bold": "700"}[was["font-weight"]]; ok {
		out["font-weight"] = w
	}
	for _, side := range []string{"left", "top", "bottom", "right"} {
		width := "border-" + side + "-width"
		if w, ok := map[string]string{"thin": "1px", "medium": "3px", "thick": "5px"}[was[width]]; ok {
			out[width] = w
		}
		if slices.Contains([]string{"hidden", "none"}, was["border-"+side+"-style"]) {
			out[width] = "0px"
		}
	}
	for name, v := range was {
		if strings.HasSuffix(name, "-color") && v == "currentcolor" {
			out[name] = was["color"]
		}
	}
	placed := map[string]bool{"absolute": true, "fixed": true}[was["position"]]
	if placed {
		out["float"] = "none"
	}
	if inline := map[string]bool{"inline": true, "inline-block": true}[was["display"]]; inline && (out["float"] != "none" || placed || root) {
		out["display"] = "block"
	}
	return oListed(out)
}

// oStyle: from an element up, by a call that calls itself.
func oStyle(d *dom.Doc, id int, l []sheet.Placed) []string {
	n, ok := d.Node(id)
	if !ok {
		return nil
	}
	parent := oInitial()
	if n.Parent != 0 {
		parent = oStyle(d, n.Parent, l)
	}
	return oFix(parent, oGiven(parent, oEntries(d, id, l)), n.Parent == 0)
}

func oGet(d *dom.Doc, id int, l []sheet.Placed, name string) (string, api.Errno) {
	style, place := oStyle(d, id, l), oPlace(name)
	switch {
	case style == nil:
		return "", api.ErrNoNode
	case place < 0:
		return "", api.ErrProp
	}
	return style[place], api.OK
}
