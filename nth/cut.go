package nth

import (
	"strings"

	"gouache/api"
	"gouache/text"
)

// written: what stands in values, as one text, since where one token ends and the next begins means nothing here.
func written(l []api.Value) (string, bool) {
	var all strings.Builder
	gather := func(s string) { all.WriteString(s) }
	for _, v := range l {
		if !told(v.Token, gather) {
			return "", false
		}
	}
	return all.String(), true
}

// told: may a token stand here? What is written of it is gathered.
func told(t api.Token, gather func(s string)) bool {
	switch t.Kind {
	case api.Ident:
		gather(t.Text)
		return true
	case api.Number:
		gather(t.Text)
		return t.Whole
	case api.Dimension:
		gather(t.Text)
		gather(t.Unit)
		return t.Whole
	case api.Delim:
		gather(t.Text)
		return t.Text == "+" || t.Text == "-"
	case api.Space:
		gather(" ")
		return true
	}
	return false
}

// cut: what a number, or A n B, says.
func cut(s string) (int, int, bool) {
	sign, s := signAhead(s)
	number, s, digits := numberAhead(s)
	if s == "" {
		return 0, direction(sign) * number, digits
	}
	behind, ok := strings.CutPrefix(s, "n")
	if !ok {
		return 0, 0, false
	}
	b, ok := cutBehind(behind)
	if !ok {
		return 0, 0, false
	}
	if !digits {
		number = 1
	}
	return direction(sign) * number, b, true
}

// cutBehind: what the B behind n says; 0, if nothing is there.
func cutBehind(s string) (int, bool) {
	if s == "" {
		return 0, true
	}
	sign, s := signAhead(strings.TrimPrefix(s, " "))
	number, s, digits := numberAhead(strings.TrimPrefix(s, " "))
	if sign == "" || !digits || s != "" {
		return 0, false
	}
	return direction(sign) * number, true
}

// signAhead: the + or - with which a text begins, if it does, and what is behind.
func signAhead(s string) (string, string) {
	if strings.HasPrefix(s, "+") || strings.HasPrefix(s, "-") {
		return s[:1], s[1:]
	}
	return "", s
}

// direction: what a number is to be taken times, behind a sign or none.
func direction(sign string) int {
	if sign == "-" {
		return -1
	}
	return 1
}

// numberAhead: the number with whose digits a text begins, the bound instead of a greater one, what is behind, and whether there is a digit.
func numberAhead(s string) (int, string, bool) {
	n := 0
	for i, c := range s {
		if !text.Digit(c) {
			return n, s[i:], i > 0
		}
		// With each digit, so that no number of digits wraps; a number that is at the bound stays there.
		n = min(n*10+int(c-'0'), bound)
	}
	return n, "", s != ""
}
