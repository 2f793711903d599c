package value

import (
	"slices"
	"sync"
	"testing"

	"gouache/api"
	"gouache/parse"
)

// room: a list with room behind its end, in which something stands.
func room(l []api.Value) []api.Value {
	out := append(slices.Clone(l), ident("behind"), with(ident("behind"), ident("kid")))
	return out[:len(l)]
}

// TestNothingIsChanged: neither what is handed in nor what lies behind its end.
func TestNothingIsChanged(t *testing.T) {
	for _, s := range []string{"", " ", "10PX", " 10PX ", " INHERIT ", "#F00", " RED", "AUTO ", "a b", "f(G H)", "[ X ]", "(0) 0", "\n 0 \n", "50%"} {
		for _, name := range []string{"width", "color", "order", "none-such"} {
			l := room(cut(s))
			whole := l[:len(l)+2]
			before := parse.Trim(whole)
			copied := slices.Clone(whole)
			Parse(name, l)
			Wide(l)
			for _, v := range l {
				Color(v)
				for _, f := range forms() {
					Part(f, v)
				}
			}
			is(t, s, whole, copied)
			is(t, s, parse.Trim(whole), before)
		}
	}
}

// TestKidsAreNotChanged: Kids of what is no block, with room behind them.
func TestKidsAreNotChanged(t *testing.T) {
	kids := room([]api.Value{ident("A"), num("0")})
	v := api.Value{Token: api.Token{Kind: api.Ident, Text: "RED"}, Kids: kids}
	want := slices.Clone(kids[:4])
	Color(v)
	Wide([]api.Value{v})
	Part("red", v)
	Part("<color>", v)
	Parse("color", []api.Value{v})
	is(t, "Kids", []any{kids[:4], v.Token.Text}, []any{want, "RED"})
}

// TestTextsStay: what was told stays, when the list that was handed in is written over.
func TestTextsStay(t *testing.T) {
	l := cut(" #AbCdEf ")
	s, _ := Parse("color", l)
	w := cut("Unset")
	wide := Wide(w)
	for i := range l {
		l[i] = ident("x")
	}
	w[0] = ident("y")
	is(t, "told", []any{s, wide}, []any{"#abcdef", "unset"})
}

// TestManyAtOnce: calls from many sides at once tell the same of the same list.
func TestManyAtOnce(t *testing.T) {
	shared := cut(" 10PX ")
	red, wide := cut("RED"), cut(" Inherit")
	var all sync.WaitGroup
	for range 8 {
		all.Go(func() {
			for range 300 {
				is(t, "width", told(Parse("width", shared)), told("10px", true))
				is(t, "color", told(Parse("color", red)), told("#ff0000", true))
				is(t, "Color", told(Color(red[0])), told("#ff0000", true))
				is(t, "Part", told(Part("Red", red[0])), told("Red", true))
				is(t, "Wide", Wide(wide), "inherit")
				n, unit, ok := Number("-12px")
				is(t, "Number", []any{n, unit, ok}, []any{-12, "px", true})
			}
		})
	}
	all.Wait()
}
