package selector

import (
	"math"
	"testing"

	"gouache/api"
)

// TestOf is P5.2.
func TestOf(t *testing.T) {
	for _, c := range []struct {
		in   string
		want api.Spec
	}{
		{"a#b > .c:not(d)", api.Spec{A: 1, B: 1, C: 2}},
		{"*", api.Spec{}}, {"a", api.Spec{C: 1}}, {"\\*", api.Spec{}}, {"#a", api.Spec{A: 1}}, {".a", api.Spec{B: 1}}, {"[a]", api.Spec{B: 1}}, {"[a=b]", api.Spec{B: 1}}, {":root", api.Spec{B: 1}}, {":empty", api.Spec{B: 1}}, {":first-child", api.Spec{B: 1}}, {":last-child", api.Spec{B: 1}}, {":only-child", api.Spec{B: 2}}, {":nth-child(2)", api.Spec{B: 1}}, {":nth-last-child(2)", api.Spec{B: 1}},
		{"a b", api.Spec{C: 2}}, {"a>b+c~d", api.Spec{C: 4}}, {"* *.a", api.Spec{B: 1}}, {"a.b.b#c#c", api.Spec{A: 2, B: 2, C: 1}},
		{":not(*)", api.Spec{}}, {":not(a)", api.Spec{C: 1}}, {":not(a,.b)", api.Spec{B: 1}}, {":not(.b,a)", api.Spec{B: 1}}, {":not(a b c,.d,#e,f)", api.Spec{A: 1}}, {":not(a,b)", api.Spec{C: 1}}, {":not(.a b,.c)", api.Spec{B: 1, C: 1}},
		{":is(#a,b c.d)", api.Spec{A: 1}}, {":is(a,:is(.b,#c d))", api.Spec{A: 1, C: 1}}, {":is(.a):is(.a)", api.Spec{B: 2}}, {":not(:is(a),:is(.b))#c", api.Spec{A: 1, B: 1}},
		{":where(#a)", api.Spec{}}, {":where(#a) b", api.Spec{C: 1}}, {":not(:where(#a))", api.Spec{}}, {":not(:where(#a),b)", api.Spec{C: 1}}, {":where(:not(#a)):is(.b)", api.Spec{B: 1}}, {":where(#a,:is(#b)):not(.c):is(d)", api.Spec{B: 1, C: 1}},
	} {
		l := must(t, c.in)
		if got := Of(l[0]); got != c.want {
			t.Errorf("Of %q: %v, want %v", c.in, got, c.want)
		}
		if got := Most(l); got != c.want {
			t.Errorf("Most of %q: %v, want %v", c.in, got, c.want)
		}
	}
}

func TestMost(t *testing.T) {
	for _, c := range []struct {
		in   string
		want api.Spec
	}{
		{"a,b", api.Spec{C: 1}}, {"a,.b,c d", api.Spec{B: 1}}, {".b,#a,c", api.Spec{A: 1}}, {"a b c d,.e", api.Spec{B: 1}}, {"*,a", api.Spec{C: 1}}, {".a.b,.c d,.e", api.Spec{B: 2}}, {":where(#a),*", api.Spec{}}, {"a:is(b,#c),#d,.e:not(f)", api.Spec{A: 1, C: 1}},
	} {
		if got := Most(must(t, c.in)); got != c.want {
			t.Errorf("Most of %q: %v, want %v", c.in, got, c.want)
		}
	}
	if Most(nil) != (api.Spec{}) || Most([]api.Complex{}) != (api.Spec{}) || Most([]api.Complex{{}, {}}) != (api.Spec{}) || Of(api.Complex{}) != (api.Spec{}) {
		t.Error("Most of nothing")
	}
}

// TestMaxSpec: each part is at most that, by itself, also of what is within.
func TestMaxSpec(t *testing.T) {
	many := func(count int, s api.Simple) []api.Simple {
		var out []api.Simple
		for range count {
			out = append(out, s)
		}
		return out
	}
	id, class, tag := api.Simple{Kind: api.ID, Name: "a"}, api.Simple{Kind: api.Class, Name: "a"}, api.Simple{Kind: api.Tag, Name: "a"}
	for _, c := range []struct {
		list []api.Simple
		want api.Spec
	}{
		{many(api.MaxSpec-1, id), api.Spec{A: 65534}}, {many(api.MaxSpec, id), api.Spec{A: 65535}}, {many(api.MaxSpec+1, id), api.Spec{A: 65535}}, {many(3*api.MaxSpec, id), api.Spec{A: 65535}},
		{many(api.MaxSpec, class), api.Spec{B: 65535}}, {many(api.MaxSpec+1, class), api.Spec{B: 65535}}, {many(api.MaxSpec, tag), api.Spec{C: 65535}}, {many(api.MaxSpec+1, tag), api.Spec{C: 65535}},
		{append(many(api.MaxSpec+2, tag), id, class, class), api.Spec{A: 1, B: 2, C: 65535}},
	} {
		if got := Most(one(c.list...)); got != c.want {
			t.Errorf("Most of %d of kind %d: %v, want %v", len(c.list), c.list[0].Kind, got, c.want)
		}
		for _, kind := range []int{api.Not, api.Is} {
			if got := Most(one(api.Simple{Kind: kind, List: one(c.list...)})); got != c.want {
				t.Errorf("Most of %d within: %v, want %v", len(c.list), got, c.want)
			}
			l := one(api.Simple{Kind: kind, List: one(c.list...)}, api.Simple{Kind: kind, List: one(c.list...)})
			want := api.Spec{A: min(2*c.want.A, 65535), B: min(2*c.want.B, 65535), C: min(2*c.want.C, 65535)}
			if got := Of(l[0]); got != want {
				t.Errorf("Of twice %d within: %v, want %v", len(c.list), got, want)
			}
		}
	}
	// Beyond MaxSpec two are as great as each other.
	l := append(one(append(many(api.MaxSpec, id), class)...), one(many(api.MaxSpec+5, id)...)...)
	if got := Most(l); got != (api.Spec{A: 65535, B: 1}) {
		t.Errorf("Most of two that reach MaxSpec: %v", got)
	}
}

// TestOddSimples: kinds that there are not have no specificity, and what a kind does not name is not looked at.
func TestOddSimples(t *testing.T) {
	ids := one(api.Simple{Kind: api.ID, Name: "a"})
	for _, kind := range []int{math.MinInt, -1, 0, 12, 13, 1<<32 + 1, math.MaxInt} {
		l := one(api.Simple{Kind: kind, Name: "a", Op: 1, Value: "v", A: 1, B: 1, List: ids})
		if Most(l) != (api.Spec{}) || Of(l[0]) != (api.Spec{}) {
			t.Errorf("Most with kind %d: %v", kind, Most(l))
		}
	}
	for kind, want := range map[int]api.Spec{api.Tag: {C: 1}, api.Class: {B: 1}, api.ID: {A: 1}, api.AttrSel: {B: 1}, api.Not: {A: 1}, api.Is: {A: 1}, api.Where: {}, api.Nth: {B: 1}, api.NthLast: {B: 1}, api.Root: {B: 1}, api.Empty: {B: 1}} {
		s := api.Simple{Kind: kind, Name: "a", Op: math.MinInt, Value: "\xff", A: math.MaxInt, B: math.MinInt, List: ids}
		c := api.Complex{Parts: [][]api.Simple{nil, {s}, {}}, Combs: []int{-1, 0, 9, 9}}
		if got := Of(c); got != want {
			t.Errorf("Of kind %d: %v, want %v", kind, got, want)
		}
		s.Name = "*"
		if kind == api.Tag {
			want = api.Spec{}
		}
		if got := Most(one(s)); got != want {
			t.Errorf("Most of kind %d with *: %v, want %v", kind, got, want)
		}
		s.Name, s.List = "", nil
		if kind == api.Tag {
			want = api.Spec{C: 1}
		}
		if kind == api.Not || kind == api.Is {
			want = api.Spec{}
		}
		if got := Most(one(s)); got != want {
			t.Errorf("Most of kind %d without List: %v, want %v", kind, got, want)
		}
	}
}

// oracleOf is P5.2's sum without its bound, by one that calls itself.
func oracleOf(c api.Complex) (a, b, n int) {
	for _, part := range c.Parts {
		for _, s := range part {
			switch {
			case s.Kind == api.ID:
				a++
			case s.Kind == api.Tag && s.Name != "*":
				n++
			case s.Kind == api.Not || s.Kind == api.Is:
				x, y, z := 0, 0, 0
				for _, c := range s.List {
					if i, j, k := oracleOf(c); i*1e12+j*1e6+k > x*1e12+y*1e6+z {
						x, y, z = i, j, k
					}
				}
				a, b, n = a+x, b+y, n+z
			case s.Kind != api.Tag && s.Kind != api.Where:
				b++
			}
		}
	}
	return a, b, n
}

func TestOfByChance(t *testing.T) {
	m := newMaker(5)
	for range 3000 {
		l := m.list(1 + m.Intn(5))
		var most api.Spec
		for _, c := range l {
			a, b, n := oracleOf(c)
			if got := Of(c); got != (api.Spec{A: a, B: b, C: n}) {
				t.Fatalf("Of %s: %v, want %d %d %d", show([]api.Complex{c}), got, a, b, n)
			}
			if a*1e12+b*1e6+n > most.A*1e12+most.B*1e6+most.C {
				most = api.Spec{A: a, B: b, C: n}
			}
		}
		if got := Most(l); got != most {
			t.Fatalf("Most of %s: %v, want %v", show(l), got, most)
		}
	}
}

// TestLess: by A, then B, then C, whatever they are.
func TestLess(t *testing.T) {
	numbers := []int{math.MinInt, -1, 0, 1, 2, api.MaxSpec, math.MaxInt}
	var all []api.Spec
	for _, a := range numbers {
		for _, b := range numbers {
			for _, c := range numbers {
				all = append(all, api.Spec{A: a, B: b, C: c})
			}
		}
	}
	// They were made in order.
	for i, a := range all {
		for j, b := range all {
			if got := Less(a, b); got != (i < j) {
				t.Fatalf("Less of %v and %v: %v", a, b, got)
			}
		}
	}
}
