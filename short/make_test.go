package short

import (
	"fmt"
	"math/rand"
	"strings"
	"testing"

	"gouache/api"
	"gouache/parse"
	"gouache/prop"
	"gouache/text"
	"gouache/token"
)

// is: one thing is the other, as it is written, both with its texts between quotes and with its numbers.
func is(t *testing.T, what string, got, want any) {
	t.Helper()
	if a, b := written(got), written(want); a != b {
		t.Errorf("%.300s: %.500s, want %.500s", what, a, b)
	}
}

func written(x any) string { return fmt.Sprintf("%v %q", x, x) }

// told: a text and whether there is one, beside each other.
func told(s string, ok bool) []any { return []any{s, ok} }

// nothing: what is told of a declaration that is none.
func nothing() []Long { return nil }

// cells: the values of a text.
func cells(s string) []api.Value { return parse.Values(token.Tokens(text.Runes([]byte(s)))) }

// decl: a declaration of a text, as it stands.
func decl(name, s string) api.Decl { return api.Decl{Name: name, Value: cells(s)} }

// important: a declaration that is.
func important(d api.Decl) api.Decl {
	d.Important = true
	return d
}

// expands: a declaration, important or not, comes to these values of these longhands.
func expands(t *testing.T, d api.Decl, names, values []string) {
	t.Helper()
	for _, yes := range []bool{false, true} {
		var want []Long
		for i, name := range names {
			want = append(want, Long{name, values[i], yes})
		}
		d.Important = yes
		is(t, d.Name+" "+fmt.Sprint(d.Value), Expand(d), want)
	}
}

// dies: a declaration, important or not, comes to nothing.
func dies(t *testing.T, d api.Decl) {
	t.Helper()
	is(t, d.Name+" "+fmt.Sprint(d.Value), Expand(d), nothing())
	is(t, d.Name+" "+fmt.Sprint(d.Value), Expand(important(d)), nothing())
}

// valuesOf: the values of longhands.
func valuesOf(l []Long) []string {
	var out []string
	for _, x := range l {
		out = append(out, x.Value)
	}
	return out
}

// ident, space, dim: values as they may be, and as no text has them.
func ident(s string) api.Value { return api.Value{Token: api.Token{Kind: api.Ident, Text: s}} }

func space() api.Value { return api.Value{Token: api.Token{Kind: api.Space}} }

func dim(s, unit string) api.Value {
	return api.Value{Token: api.Token{Kind: api.Dimension, Text: s, Unit: unit, Whole: true}}
}

// with: a value with Kids.
func with(v api.Value, kids ...api.Value) api.Value {
	v.Kids = kids
	return v
}

// longNames: those of all longhands.
func longNames() []string {
	var out []string
	for _, p := range prop.All() {
		out = append(out, p.Name)
	}
	return out
}

// letters: a text in other letters, small or capital by chance.
func letters(r *rand.Rand, s string) string {
	b := []byte(s)
	for i, c := range b {
		if r.Intn(2) == 0 && (c >= 'a' && c <= 'z' || c >= 'A' && c <= 'Z') {
			b[i] = c ^ 0x20
		}
	}
	return string(b)
}

// lists: all lists of up to so many of some things.
func lists[T any](of []T, most int) [][]T {
	out, last := [][]T{nil}, [][]T{nil}
	for range most {
		var next [][]T
		for _, l := range last {
			for _, x := range of {
				next = append(next, append(append([]T{}, l...), x))
			}
		}
		out, last = append(out, next...), next
	}
	return out
}

// chance: a text of pieces that stand in values of shorthands, and of others.
func chance(r *rand.Rand) string {
	pieces := []string{"1px", "-2PX", "0", "5%", "auto", "AUTO", "thin", "medium", "solid", "None", "red", "#F00", "currentcolor", "visible", "hidden", "clip", "inherit", "Unset", "initial", "x", ",", "/**/", "(1px)", "f(", "\"a\"", "!", "\\", "\xff", "é"}
	spaces := []string{" ", " ", " ", " ", "  ", "\n", "\t \r\n", " /**/ ", "/**/", ""}
	var out strings.Builder
	out.WriteString(spaces[r.Intn(len(spaces))])
	for range r.Intn(6) {
		out.WriteString(pieces[r.Intn(len(pieces))])
		out.WriteString(spaces[r.Intn(len(spaces))])
	}
	return out.String()
}
