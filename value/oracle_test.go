package value

import (
	"math/big"
	"regexp"
	"strings"

	"gouache/api"
	"gouache/prop"
)

// oSmall: letters A to Z are small, byte by byte.
func oSmall(s string) string {
	b := []byte(s)
	for i, c := range b {
		if strings.IndexByte("ABCDEFGHIJKLMNOPQRSTUVWXYZ", c) >= 0 {
			b[i] = c + 32
		}
	}
	return string(b)
}

// oTrim: a list without Space at its ends, by places.
func oTrim(l []api.Value) []api.Value {
	from, to := 0, len(l)
	for from < to && l[from].Token.Kind == 13 {
		from++
	}
	for to > from && l[to-1].Token.Kind == 13 {
		to--
	}
	return l[from:to]
}

func oWide(l []api.Value) string {
	l = oTrim(l)
	if len(l) == 1 && l[0].Token.Kind == 1 {
		for _, w := range []string{"inherit", "initial", "unset"} {
			if oSmall(l[0].Token.Text) == w {
				return w
			}
		}
	}
	return ""
}

// oColors: the chapter's two lists, side by side.
var (
	oColors  = strings.Fields("black white red green blue gray yellow purple")
	oNumbers = strings.Fields("#000000 #ffffff #ff0000 #008000 #0000ff #808080 #ffff00 #800080")
	oSix     = regexp.MustCompile(`\A[0-9a-fA-F]{6}\z`)
	oThree   = regexp.MustCompile(`\A([0-9a-fA-F])([0-9a-fA-F])([0-9a-fA-F])\z`)
	oDigits  = regexp.MustCompile(`\A[+-]?[0-9]+\z`)
	oUnits   = regexp.MustCompile(`\A(-?[0-9]+)(px|%|)\z`)
	oForm    = regexp.MustCompile(`\A<(len|pct|int)([+]?)>\z`)
)

func oColor(v api.Value) (string, bool) {
	switch t := v.Token; {
	case t.Kind == 1:
		for i, c := range oColors {
			if c == oSmall(t.Text) {
				return oNumbers[i], true
			}
		}
	case t.Kind == 4 && oSix.MatchString(t.Text):
		return "#" + oSmall(t.Text), true
	case t.Kind == 4 && oThree.MatchString(t.Text):
		return oThree.ReplaceAllString(oSmall(t.Text), "#$1$1$2$2$3$3"), true
	}
	return "", false
}

// oBound: a number without bounds, put between the bounds.
func oBound(s string) *big.Int {
	n, _ := new(big.Int).SetString(s, 10)
	for _, b := range []int64{-1000000, 1000000} {
		if n.CmpAbs(big.NewInt(b)) > 0 && n.Sign() == big.NewInt(b).Sign() {
			return big.NewInt(b)
		}
	}
	return n
}

func oPart(form string, v api.Value) (string, bool) {
	t := v.Token
	if len(v.Kids) != 0 {
		return "", false
	}
	if form == "<color>" {
		return oColor(v)
	}
	m := oForm.FindStringSubmatch(form)
	if m == nil {
		if t.Kind == 1 && oSmall(t.Text) == oSmall(form) {
			return form, true
		}
		return "", false
	}
	if !t.Whole || !oDigits.MatchString(t.Text) {
		return "", false
	}
	n := oBound(t.Text)
	if m[2] == "+" && n.Sign() < 0 {
		return "", false
	}
	switch {
	case m[1] == "len" && t.Kind == 12 && oSmall(t.Unit) == "px", m[1] == "len" && t.Kind == 10 && n.Sign() == 0:
		return n.String() + "px", true
	case m[1] == "pct" && t.Kind == 11:
		return n.String() + "%", true
	case m[1] == "int" && t.Kind == 10:
		return n.String(), true
	}
	return "", false
}

func oParse(name string, l []api.Value) (string, bool) {
	l = oTrim(l)
	for _, p := range prop.All() {
		if p.Name != name || len(l) != 1 {
			continue
		}
		for _, f := range strings.Split(p.Form, "|") {
			if s, ok := oPart(f, l[0]); ok {
				return s, true
			}
		}
	}
	return "", false
}

func oNumber(s string) (int, string, bool) {
	m := oUnits.FindStringSubmatch(s)
	if m == nil {
		return 0, "", false
	}
	return int(oBound(m[1]).Int64()), m[2], true
}

// oWritten: what a form makes of a text as it is written, without tokens: of texts without comments, escapes and brackets.
func oWritten(form, s string) (string, bool) {
	s = strings.Trim(s, " \t\n")
	signed := `([+-]?[0-9]+)`
	sign := func(digits, unit string) (string, bool) {
		n := oBound(digits)
		return n.String() + unit, n.Sign() >= 0 || !strings.HasSuffix(form, "+>")
	}
	match := func(expression string) string {
		if m := regexp.MustCompile(`\A` + expression + `\z`).FindStringSubmatch(s); m != nil {
			return m[1]
		}
		return ""
	}
	switch form {
	case "<len>", "<len+>":
		if d := match(signed + `[pP][xX]`); d != "" {
			return sign(d, "px")
		}
		return "0px", match(`([+-]?0+)`) != ""
	case "<pct>", "<pct+>":
		if d := match(signed + "%"); d != "" {
			return sign(d, "%")
		}
	case "<int>", "<int+>":
		if d := match(signed); d != "" {
			return sign(d, "")
		}
	case "<color>":
		if d := match(`#([0-9a-fA-F]{3}|[0-9a-fA-F]{6})`); d != "" {
			return oColor(hash(d))
		}
		return oColor(ident(s))
	default:
		return form, oSmall(s) == oSmall(form)
	}
	return "", false
}
