package selector

import "gouache/api"

// What a sign may stand for.
const (
	ofComb = iota
	ofOperator
	ofKind
)

// signs: what is written for a comb (Descendant has none, as Spaces alone mean it), ahead of the = of an operator, and behind the colon of a kind.
var signs = [...]struct {
	of     int
	number int
	text   string
}{
	{ofComb, api.Child, ">"},
	{ofComb, api.Next, "+"},
	{ofComb, api.Later, "~"},
	{ofOperator, api.Word, "~"},
	{ofOperator, api.Dash, "|"},
	{ofOperator, api.Begins, "^"},
	{ofOperator, api.Ends, "$"},
	{ofOperator, api.Contains, "*"},
	{ofKind, api.Not, "not"},
	{ofKind, api.Is, "is"},
	{ofKind, api.Where, "where"},
	{ofKind, api.Nth, "nth-child"},
	{ofKind, api.NthLast, "nth-last-child"},
	{ofKind, api.Root, "root"},
	{ofKind, api.Empty, "empty"},
}

// numberOf: what a sign stands for; 0, if it is none of these.
func numberOf(of int, text string) int {
	for _, s := range signs {
		if s.of == of && s.text == text {
			return s.number
		}
	}
	return 0
}

// signOf: what is written for a number; nothing, if it has no sign.
func signOf(of, number int) string {
	for _, s := range signs {
		if s.of == of && s.number == number {
			return s.text
		}
	}
	return ""
}

// listed: does a kind have a List?
func listed(kind int) bool {
	return kind == api.Not || kind == api.Is || kind == api.Where
}

// within: the simple selectors of a list of which that is asked, from left to right.
func within(l []api.Complex, asked func(kind int) bool) []*api.Simple {
	var out []*api.Simple
	for _, c := range l {
		for _, part := range c.Parts {
			for i := range part {
				if asked(part[i].Kind) {
					out = append(out, &part[i])
				}
			}
		}
	}
	return out
}
