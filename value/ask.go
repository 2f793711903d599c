package value

import (
	"strconv"
	"strings"

	"gouache/api"
	"gouache/text"
	"gouache/token"
)

// ask: what a form asks of a value: how the value is written, if it is of that form.
type ask func(v api.Value) (string, bool)

// asks: the ask of a form.
func asks(form string) ask {
	switch form {
	case "<len>", "<len+>":
		return whole(form, "px", length)
	case "<pct>", "<pct+>":
		return whole(form, "%", percent)
	case "<int>", "<int+>":
		return whole(form, "", number)
	case "<color>":
		return Color
	}
	return word(form)
}

// whole: what a form of whole numbers asks: a token that fits, and is not below 0, if the form says so.
func whole(form, unit string, fits func(t api.Token, n int) bool) ask {
	above := strings.HasSuffix(form, "+>")
	return func(v api.Value) (string, bool) {
		n, ok := token.Int(v.Token)
		if !ok || !fits(v.Token, n) || above && n < 0 {
			return "", false
		}
		return strconv.Itoa(n) + unit, true
	}
}

// word: what a form asks that is a word: that word.
func word(form string) ask {
	return func(v api.Value) (string, bool) {
		if v.Token.Kind != api.Ident || text.Fold(v.Token.Text) != text.Fold(form) {
			return "", false
		}
		return form, true
	}
}

// length: is it a length, or a 0, which needs no unit?
func length(t api.Token, n int) bool {
	return t.Kind == api.Dimension && text.Fold(t.Unit) == "px" || t.Kind == api.Number && n == 0
}

// percent: is it a Percent?
func percent(t api.Token, _ int) bool { return t.Kind == api.Percent }

// number: is it a Number?
func number(t api.Token, _ int) bool { return t.Kind == api.Number }
