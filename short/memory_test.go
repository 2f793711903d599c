package short

import (
	"slices"
	"sync"
	"testing"

	"gouache/api"
	"gouache/parse"
	"gouache/prop"
)

// room: a list with room behind its end, in which something stands.
func room(l []api.Value) []api.Value {
	out := append(slices.Clone(l), ident("behind"), with(ident("behind"), ident("kid")))
	return out[:len(l)]
}

// TestNothingIsChanged: neither what is handed in nor what lies behind its end.
func TestNothingIsChanged(t *testing.T) {
	for _, s := range []string{"", " ", "10PX", " 1px  AUTO ", " INHERIT ", "#F00 RED", "a b", "f(G H) 1px", "[ X ]", "1px 2px 3px 4px", "1px /**/ 2px 3px 4px 5px", "Hidden CLIP", "thin\n\nthick"} {
		for _, name := range append(prop.Shorts(), "color", "margin-top", "none-such") {
			l := room(cells(s))
			whole := l[:len(l)+2]
			before := parse.Trim(whole)
			d := api.Decl{Name: name, Value: l, Important: true}
			decls := append(make([]api.Decl, 0, 3), d, d, decl("x", "behind"))[:2]
			Expand(d)
			All(decls)
			is(t, name+" "+s, parse.Trim(whole), before)
			is(t, name+" "+s, decls[:3], []api.Decl{d, d, decl("x", "behind")})
			is(t, name+" "+s, d, api.Decl{Name: name, Value: whole[:len(l)], Important: true})
		}
	}
}

// TestJoinChangesNothing: neither the list nor what lies behind its end.
func TestJoinChangesNothing(t *testing.T) {
	for _, l := range lists([]string{"a", "b"}, 5) {
		behind := append(slices.Clone(l), "x", "y", "z")
		want := slices.Clone(behind)
		for _, name := range []string{"margin", "overflow", "x"} {
			Join(name, behind[:len(l)])
			is(t, name, behind, want)
		}
	}
}

// spoil: an answer is written over, with the room behind it.
func spoil(l []Long) {
	l = l[:cap(l)]
	for i := range l {
		l[i] = Long{"x", "x", true}
	}
}

// TestAnswersAreNew: who writes over an answer changes neither another one nor what was handed in.
func TestAnswersAreNew(t *testing.T) {
	for _, s := range shorthands() {
		for _, x := range []string{s.texts[0], s.texts[0] + " " + s.texts[1], "unset"} {
			d := decl(s.name, x)
			l := []api.Decl{d, decl("color", "red"), d}
			want, wants := oExpand(d), slices.Concat(oExpand(d), oExpand(l[1]), oExpand(d))
			older, olders := Expand(d), All(l)
			spoil(Expand(d))
			spoil(All(l))
			is(t, s.name, [][]Long{older, olders, Expand(d), All(l)}, [][]Long{want, wants, want, wants})
			is(t, s.name, l, []api.Decl{decl(s.name, x), decl("color", "red"), decl(s.name, x)})
			_ = append(older[:1], Long{"x", "x", true})
			is(t, s.name, [][]Long{olders, Expand(d)}, [][]Long{wants, want})
		}
	}
}

// TestAnswersStay: what was told stays, when what was handed in is written over.
func TestAnswersStay(t *testing.T) {
	l := []api.Decl{decl("margin", "1PX Auto"), decl("color", "#AbC"), decl("overflow", "Unset")}
	longs, one := All(l), Expand(l[0])
	values := []string{"a", "b", "a", "b"}
	joined, _ := Join("margin", values)
	want := slices.Concat(oExpand(l[0]), oExpand(l[1]), oExpand(l[2]))
	for i := range l {
		for j := range l[i].Value {
			l[i].Value[j] = ident("x")
		}
		l[i] = decl("x", "x")
	}
	clear(values)
	is(t, "told", []any{longs, one, joined}, []any{want, want[:4], "a b"})
}

// TestManyAtOnce: calls from many sides at once tell the same of the same declaration, though each writes over what it was told.
func TestManyAtOnce(t *testing.T) {
	d := decl("margin", " 1PX  auto 3px ")
	l := []api.Decl{d, decl("overflow", "clip"), decl("color", "inherit")}
	values := []string{"a", "b", "c", "b"}
	want := oExpand(d)
	wants := slices.Concat(want, oExpand(l[1]), oExpand(l[2]))
	var all sync.WaitGroup
	for range 8 {
		all.Go(func() {
			for range 300 {
				one, each := Expand(d), All(l)
				is(t, "Expand", one, want)
				is(t, "All", each, wants)
				spoil(one)
				spoil(each)
				is(t, "Join", told(Join("margin", values)), told("a b c", true))
				is(t, "Sides", Sides(3, 3), 1)
			}
		})
	}
	all.Wait()
}
