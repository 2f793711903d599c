package prop

import (
	"slices"
	"strings"
	"sync"
	"testing"
)

// spoil: an answer is written over, with the room behind it.
func spoil[T any](l []T, with T) {
	l = l[:cap(l)]
	for i := range l {
		l[i] = with
	}
	_ = append(l, with)
}

// TestAnswersAreNew: who writes over an answer does not change another one, be it older or newer.
func TestAnswersAreNew(t *testing.T) {
	first := All()
	spoil(All(), Prop{"x", "x", true, "x"})
	is(t, "older All", first, oAll())
	is(t, "newer All", All(), oAll())
	for i, p := range oAll() {
		asks(t, p.Name, i, p, nil)
		older := Forms(p)
		spoil(Forms(p), "x")
		is(t, "older Forms", older, oForms(p.Form))
		is(t, "newer Forms", Forms(p), oForms(p.Form))
	}
	for _, s := range oShorts() {
		older := Longs(s.name)
		spoil(Longs(s.name), "x")
		is(t, "older Longs", older, s.longs)
		is(t, "newer Longs", Longs(s.name), s.longs)
	}
	older := Shorts()
	want := slices.Clone(older)
	spoil(Shorts(), "x")
	is(t, "older Shorts", older, want)
	is(t, "newer Shorts", Shorts(), want)
}

// TestAnswersShareNothing: an answer that grows does not grow into another one.
func TestAnswersShareNothing(t *testing.T) {
	a, b := All(), All()
	a = append(a[:10], Prop{Name: "x"})
	is(t, "All", []any{len(a), b}, []any{11, oAll()})
	for _, s := range oShorts() {
		a, b := Longs(s.name), Longs(s.name)
		_ = append(a[:1], "x")
		is(t, s.name, b, s.longs)
	}
	p := Prop{Form: "a|b|c"}
	c, d := Forms(p), Forms(p)
	_ = append(c[:1], "x")
	is(t, "Forms", []any{d, p}, []any{[]string{"a", "b", "c"}, Prop{Form: "a|b|c"}})
}

// TestFoundIsACopy: who changes what Find told does not change what it tells again.
func TestFoundIsACopy(t *testing.T) {
	p, _ := Find("color")
	p.Name, p.Initial, p.Inherits, p.Form = "x", "x", false, "x"
	asked(t, "color")
	asked(t, "x")
}

// TestTextsAreKept: the parts of a Form stay, when the bytes of which it was made are written over.
func TestTextsAreKept(t *testing.T) {
	bytes := []byte("a|bc|d")
	l := Forms(Prop{Form: string(bytes)})
	copy(bytes, "xxxxxx")
	is(t, "Forms", l, []string{"a", "bc", "d"})
}

// TestManyAtOnce: calls from many sides at once tell the same, though each writes over what it was told.
func TestManyAtOnce(t *testing.T) {
	var all sync.WaitGroup
	for range 8 {
		all.Go(func() {
			for range 50 {
				for i, p := range All() {
					asks(t, p.Name, i, p, nil)
					spoil(Forms(p), "x")
				}
				spoil(All(), Prop{})
				spoil(Shorts(), "x")
				for _, s := range Shorts() {
					is(t, s, Longs(s), oLongs(s))
					spoil(Longs(s), "x")
				}
			}
		})
	}
	all.Wait()
	is(t, "All", All(), oAll())
}

// TestManyParts: a Form of very many parts, and of one very long part.
func TestManyParts(t *testing.T) {
	l := Forms(Prop{Form: strings.Repeat("|", 1<<20)})
	is(t, "how many", len(l), 1<<20+1)
	is(t, "parts", slices.Compact(l), []string{""})
	long := strings.Repeat("\xff", 1<<20)
	l = Forms(Prop{Form: long + "|" + long})
	is(t, "long ones", []any{len(l), l[0] == long, l[1] == long}, []any{2, true, true})
}
