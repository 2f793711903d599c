package selector

import (
	"fmt"
	"strconv"
	"strings"
	"testing"

	"gouache/api"
	"gouache/parse"
	"gouache/text"
	"gouache/token"
)

// values: what stands in a text, by the layers below.
func values(s string) []api.Value {
	return parse.Values(token.Tokens(text.Runes([]byte(s))))
}

// letters: how show writes each kind of simple selectors.
const letters = "?TCIANSWnlRE"

// show writes a list by the numbers of its combs and the letters of its kinds, with no call of the package. What a kind does not name is written too, if it is not zero.
func show(l []api.Complex) string {
	var out []string
	for _, c := range l {
		s := ""
		for i, part := range c.Parts {
			if i > 0 {
				s += " "
				if i <= len(c.Combs) {
					s += strconv.Itoa(c.Combs[i-1])
				}
				s += " "
			}
			for _, one := range part {
				s += showSimple(one)
			}
		}
		if len(c.Combs) >= len(c.Parts) {
			s += fmt.Sprint(" Combs", c.Combs)
		}
		out = append(out, s)
	}
	return strings.Join(out, " | ")
}

func showSimple(s api.Simple) string {
	out := "kind" + strconv.Itoa(s.Kind)
	if s.Kind > 0 && s.Kind < len(letters) {
		out = letters[s.Kind : s.Kind+1]
	}
	rest := s
	switch s.Kind {
	case api.Tag, api.Class, api.ID:
		out += "(" + s.Name + ")"
		rest.Name = ""
	case api.AttrSel:
		out += "(" + s.Name + " " + strconv.Itoa(s.Op) + " " + s.Value + ")"
		rest.Name, rest.Op, rest.Value = "", 0, ""
	case api.Not, api.Is, api.Where:
		out += "[" + show(s.List) + "]"
		rest.List = nil
	case api.Nth, api.NthLast:
		out += "(" + strconv.Itoa(s.A) + "," + strconv.Itoa(s.B) + ")"
		rest.A, rest.B = 0, 0
	}
	if rest.Name != "" || rest.Op != 0 || rest.Value != "" || rest.A != 0 || rest.B != 0 || len(rest.List) != 0 {
		out += fmt.Sprintf("!%+v", rest)
	}
	return out
}

// read: what Parse says of values; "none" beside a false, with what should not be there.
func read(l []api.Value) string {
	out, ok := Parse(l)
	if !ok {
		return "none" + show(out)
	}
	return show(out)
}

// must: what Text reads of a text that should be a list.
func must(t *testing.T, s string) []api.Complex {
	t.Helper()
	l, e := Text(s)
	if e != api.OK {
		t.Fatalf("Text of %q: %v", s, e)
	}
	return l
}

// whole: all of an answer, nothing and an empty list being the same.
func whole(answer any) string { return fmt.Sprintf("%+v", answer) }

func check(t *testing.T, what string, in any, got, want string) {
	t.Helper()
	if got != want {
		t.Errorf("%s of %q: %q, want %q", what, in, got, want)
	}
}

// one: a list of one complex selector, of one compound one.
func one(l ...api.Simple) []api.Complex {
	return []api.Complex{{Parts: [][]api.Simple{l}}}
}

// nested: a list of a List, and so on, so that it is nested so deep as told; inmost is the last of them.
func nested(deep int, kind int, inmost []api.Complex) []api.Complex {
	l := inmost
	for range deep - 1 {
		l = one(api.Simple{Kind: kind, List: l})
	}
	return l
}
