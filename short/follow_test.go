package short

import (
	"math/rand"
	"slices"
	"strings"
	"testing"

	"gouache/parse"
	"gouache/prop"
)

// again: what Join tells of what a shorthand's text was Expanded to, as a declaration, is Expanded to it again; and no other text of fewer parts is.
func again(t *testing.T, name, s string) bool {
	t.Helper()
	first := Expand(decl(name, s))
	if len(first) == 0 {
		return false
	}
	joined, ok := Join(name, valuesOf(first))
	is(t, name+" "+s, ok, true)
	is(t, name+" "+s, Expand(decl(name, joined)), first)
	l := parse.Decls(cells(" " + name + " : " + joined + " ;" + name + ":" + joined + "!important"))
	is(t, name+" "+s, len(l), 2)
	is(t, name+" "+s, Expand(l[0]), first)
	for i := range first {
		first[i].Important = true
	}
	is(t, name+" "+s, Expand(l[1]), first)
	is(t, name+" "+s, told(Join(name, valuesOf(Expand(l[1])))), told(joined, true))
	parts := strings.Fields(joined)
	is(t, name+" "+s, strings.Join(parts, " "), joined)
	is(t, name+" "+s, len(parts) <= len(oCut(cells(s))), true)
	for n := 1; n < len(parts); n++ {
		is(t, name+" "+s, slices.Equal(valuesOf(Expand(decl(name, strings.Join(parts[:n], " ")))), valuesOf(first)), false)
	}
	return true
}

// TestAgain: P16.3, of each shorthand with all lists of up to four of its texts, and with the wide words.
func TestAgain(t *testing.T) {
	for _, s := range shorthands() {
		for _, l := range lists(s.texts[:4], 4) {
			is(t, s.name, again(t, s.name, strings.Join(l, " ")), len(l) > 0 && len(l) <= len(s.longs))
		}
		for _, w := range []string{"inherit", "initial", "unset", "INHERIT", " Unset "} {
			is(t, s.name, again(t, s.name, w), true)
		}
		is(t, s.name, again(t, s.name, s.wrong), false)
	}
}

// TestAgainOfEachForm: P16.3, of each shorthand with each word that its longhands may be, each beside each.
func TestAgainOfEachForm(t *testing.T) {
	words := map[string][]string{"<len>": {"-1px", "0", "1000001px"}, "<len+>": {"0", "12PX"}, "<pct>": {"-0%", "7%"}, "<pct+>": {"0%"}, "<color>": {"red", "#abc", "#ABCDEF"}}
	for _, s := range shorthands() {
		p, _ := prop.Find(s.longs[0])
		var all []string
		for _, f := range prop.Forms(p) {
			if strings.HasPrefix(f, "<") {
				all = append(all, words[f]...)
			} else {
				all = append(all, f)
			}
		}
		for _, a := range all {
			for _, b := range all {
				is(t, s.name, again(t, s.name, a+" "+b), true)
				is(t, s.name, again(t, s.name, a+" "+b+" "+a), len(s.longs) == 4)
				is(t, s.name, again(t, s.name, a+" "+b+" "+b+" "+a), len(s.longs) == 4)
			}
		}
	}
}

// TestAgainByChance: P16.3, of texts of pieces.
func TestAgainByChance(t *testing.T) {
	r := rand.New(rand.NewSource(6))
	many := 0
	for range 20000 {
		s := chance(r)
		for _, name := range prop.Shorts() {
			if again(t, name, s) {
				many++
			}
		}
	}
	is(t, "many were told", many > 2000, true)
}

// TestJoinedLonghands: P16.3, of values that were Expanded one by one, none of them wide: the shorthand comes to the same as the longhands.
func TestJoinedLonghands(t *testing.T) {
	for _, s := range shorthands() {
		for _, places := range lists([]int{0, 1, 2, 3}, len(s.longs)) {
			if len(places) != len(s.longs) {
				continue
			}
			var all []Long
			for i, name := range s.longs {
				all = append(all, Expand(decl(name, s.texts[places[i]]))...)
			}
			joined, ok := Join(s.name, valuesOf(all))
			is(t, s.name, []any{ok, Expand(decl(s.name, joined))}, []any{true, all})
		}
	}
}
