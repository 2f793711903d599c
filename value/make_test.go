package value

import (
	"fmt"
	"math/rand"
	"strings"
	"testing"

	"gouache/api"
	"gouache/parse"
	"gouache/prop"
	"gouache/text"
	"gouache/token"
)

// is: one thing is the other, as it is written, both with its texts between quotes and with its numbers.
func is(t *testing.T, what string, got, want any) {
	t.Helper()
	if a, b := written(got), written(want); a != b {
		t.Errorf("%.300s: %.500s, want %.500s", what, a, b)
	}
}

func written(x any) string { return fmt.Sprintf("%v %q", x, x) }

// told: a text and whether there is one, beside each other.
func told(s string, ok bool) []any { return []any{s, ok} }

// none: what is told beside a false.
func none() []any { return told("", false) }

// cut: the values of a text.
func cut(s string) []api.Value { return parse.Values(token.Tokens(text.Runes([]byte(s)))) }

// one: the only value of a text.
func one(t *testing.T, s string) api.Value {
	t.Helper()
	l := cut(s)
	if len(l) != 1 {
		t.Fatalf("%.300s: %d values, want one", s, len(l))
	}
	return l[0]
}

// ident, hash: tokens as they may be, and as no text has them.
func ident(s string) api.Value { return api.Value{Token: api.Token{Kind: api.Ident, Text: s}} }

func hash(s string) api.Value { return api.Value{Token: api.Token{Kind: api.Hash, Text: s}} }

// whole numbers of the three kinds.
func num(s string) api.Value {
	return api.Value{Token: api.Token{Kind: api.Number, Text: s, Whole: true}}
}

func pct(s string) api.Value {
	return api.Value{Token: api.Token{Kind: api.Percent, Text: s, Whole: true}}
}

func dim(s, unit string) api.Value {
	return api.Value{Token: api.Token{Kind: api.Dimension, Text: s, Unit: unit, Whole: true}}
}

// with: a value with Kids.
func with(v api.Value, kids ...api.Value) api.Value {
	v.Kids = kids
	return v
}

// names: those of all longhands.
func names() []string {
	var out []string
	for _, p := range prop.All() {
		out = append(out, p.Name)
	}
	return out
}

// forms: each part of a form that there is, once.
func forms() []string {
	var out []string
	seen := map[string]int{}
	for _, p := range prop.All() {
		for _, f := range prop.Forms(p) {
			if seen[f]++; seen[f] == 1 {
				out = append(out, f)
			}
		}
	}
	return out
}

// letters: a text in other letters, small or capital by chance.
func letters(r *rand.Rand, s string) string {
	b := []byte(s)
	for i, c := range b {
		if r.Intn(2) == 0 && (c >= 'a' && c <= 'z' || c >= 'A' && c <= 'Z') {
			b[i] = c ^ 0x20
		}
	}
	return string(b)
}

// texts: all texts of up to so many of some characters.
func texts(signs []string, most int) []string {
	out, last := []string{""}, []string{""}
	for range most {
		var next []string
		for _, s := range last {
			for _, c := range signs {
				next = append(next, s+c)
			}
		}
		out, last = append(out, next...), next
	}
	return out
}

// chance: a text of pieces that stand in values, and of others.
func chance(r *rand.Rand) string {
	pieces := []string{"0", "1", "9", "00", "-", "+", "px", "PX", "pX", "%", "em", "e1", ".", "#", "f00", "ABC", "0aF", "red", "Purple", "auto", "NONE", "medium", "inherit", "Unset", "initial", " ", "\n", "\t", "/**/", "(", ")", ",", "\\", "\"", "é", "\xff", "1000000", "1000001", "solid", "<len>", "block"}
	var out strings.Builder
	for range 1 + r.Intn(4) {
		out.WriteString(pieces[r.Intn(len(pieces))])
	}
	return out.String()
}
