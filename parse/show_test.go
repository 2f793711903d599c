package parse

import (
	"fmt"
	"strconv"
	"strings"
	"testing"

	"gouache/api"
	"gouache/text"
	"gouache/token"
)

// cut: the tokens of a text, by the layers below.
func cut(s string) []api.Token { return token.Tokens(text.Runes([]byte(s))) }

// showToken: its source, or, if it has none, the number of its kind.
func showToken(t api.Token) string {
	if s := token.Source(t); s != "" {
		return s
	}
	return "$" + strconv.Itoa(t.Kind)
}

func showTokens(l []api.Token) string {
	var b strings.Builder
	for _, t := range l {
		b.WriteString(showToken(t))
	}
	return b.String()
}

// show writes values so that it is seen what is in what: Kids stand between < and >.
func show(l []api.Value) string {
	var b strings.Builder
	for _, v := range l {
		b.WriteString(showToken(v.Token))
		if pairs[v.Token.Kind] != 0 || len(v.Kids) > 0 {
			b.WriteString("<" + show(v.Kids) + ">")
		}
	}
	return b.String()
}

func showBlocks(l []Block) string {
	var parts []string
	for _, b := range l {
		parts = append(parts, show(b.Prelude)+" => "+show(b.Body))
	}
	return strings.Join(parts, " | ")
}

func showDecls(l []api.Decl) string {
	var parts []string
	for _, d := range l {
		sign := " = "
		if d.Important {
			sign = " =! "
		}
		parts = append(parts, d.Name+sign+show(d.Value))
	}
	return strings.Join(parts, " | ")
}

// whole: all of an answer, nothing and an empty list being the same.
func whole(answer any) string { return fmt.Sprintf("%+v", answer) }

// alike: what Same should say, for tests of the other calls that ask it often.
func alike(a, b []api.Value) bool {
	if len(a) != len(b) {
		return false
	}
	for i, x := range a {
		y := b[i]
		if x.Token.Kind != y.Token.Kind || x.Token.Text != y.Token.Text || x.Token.Unit != y.Token.Unit || x.Token.Whole != y.Token.Whole || x.Token.Flag != y.Token.Flag || !alike(x.Kids, y.Kids) {
			return false
		}
	}
	return true
}

func check(t *testing.T, call, in, got, want string) {
	t.Helper()
	if got != want {
		t.Errorf("%s of %q: %q, want %q", call, in, got, want)
	}
}
