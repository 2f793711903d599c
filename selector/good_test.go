package selector

import (
	"fmt"
	"math"
	"strings"
	"testing"

	"gouache/api"
)

// exact: all of a list, in a text that no other one has; nothing and an empty list are the same.
func exact(l []api.Complex) string {
	var out strings.Builder
	for _, c := range l {
		fmt.Fprintf(&out, "{%d", c.Combs)
		for _, part := range c.Parts {
			out.WriteString("(")
			for _, s := range part {
				fmt.Fprintf(&out, "<%d %q %d %q %d %d %s>", s.Kind, s.Name, s.Op, s.Value, s.A, s.B, exact(s.List))
			}
			out.WriteString(")")
		}
		out.WriteString("}")
	}
	return out.String()
}

// mightBe: does it come out of Text of what is written for it? (So Good must say of lists that are short, and nested less than 32 deep.)
func mightBe(l []api.Complex) bool {
	back, e := Text(written(l))
	return e == api.OK && exact(back) == exact(l)
}

// checkGood holds Good against what comes out of Text, and Print against what is written.
func checkGood(t *testing.T, l []api.Complex) {
	t.Helper()
	want := mightBe(l)
	if got := Good(l); got != want {
		t.Fatalf("Good of %s: %v, want %v", exact(l), got, want)
	}
	text := ""
	if want {
		text = written(l)
	}
	if got := Print(l); got != text {
		t.Fatalf("Print of %s: %q, want %q", exact(l), got, text)
	}
}

// TestGoodSimples is P5.3, over simple selectors with fields of each sort, first in a compound one, behind another one, and within.
func TestGoodSimples(t *testing.T) {
	names := []string{"", "a", "A", "*", "\u00c9", "a\x00", "\xff"}
	opValues := []api.Simple{{}, {Op: 1}, {Op: 6, Value: "X y"}, {Op: 7, Value: "x"}, {Op: -1}, {Value: "x"}, {Op: 3, Value: "\x00"}, {Op: 2, Value: "a\xed\xa0\x80"}, {Op: math.MinInt}, {Op: 1<<32 + 1}}
	numbers := []int{0, 1, -1000000, 1000000, -1000001, 1000001, math.MinInt, math.MaxInt}
	lists := [][]api.Complex{nil, {}, one(api.Simple{Kind: api.Root}), one(), {{}}}
	for _, kind := range []int{math.MinInt, -1, 0, 1, 2, 3, 4, 5, 6, 7, 8, 9, 10, 11, 12, 1<<32 + 10, math.MaxInt} {
		for _, name := range names {
			for _, s := range opValues {
				for i, a := range numbers {
					for _, b := range []int{0, numbers[(i+3)%len(numbers)], numbers[len(numbers)-1-i]} {
						for _, list := range lists {
							s.Kind, s.Name, s.A, s.B, s.List = kind, name, a, b, list
							checkGood(t, one(s))
						}
					}
				}
			}
		}
	}
	for kind := range 13 {
		for _, name := range names {
			for _, a := range []int{0, 1} {
				for _, list := range lists {
					s := api.Simple{Kind: kind, Name: name, A: a, List: list}
					checkGood(t, one(api.Simple{Kind: api.Class, Name: "c"}, s))
					checkGood(t, one(s, api.Simple{Kind: api.Empty}))
					checkGood(t, one(s, s))
					checkGood(t, one(api.Simple{Kind: api.Tag, Name: "t"}, s))
					checkGood(t, one(api.Simple{Kind: api.Not, List: one(s)}))
					checkGood(t, one(api.Simple{Kind: api.Where, List: one(api.Simple{Kind: api.Is, List: append(one(api.Simple{Kind: api.Root}), one(s)...)})}))
				}
			}
		}
	}
}

// TestGoodShapes: Parts and Combs that fit, and that do not.
func TestGoodShapes(t *testing.T) {
	a := []api.Simple{{Kind: api.Tag, Name: "a"}}
	for i, c := range []struct {
		list []api.Complex
		want bool
	}{
		{nil, false}, {[]api.Complex{}, false}, {[]api.Complex{{}}, false}, {[]api.Complex{{Parts: [][]api.Simple{}}}, false}, {[]api.Complex{{Combs: []int{1}}}, false},
		{[]api.Complex{{Parts: [][]api.Simple{a}}}, true}, {[]api.Complex{{Parts: [][]api.Simple{a}, Combs: []int{}}}, true}, {[]api.Complex{{Parts: [][]api.Simple{a}, Combs: []int{1}}}, false}, {[]api.Complex{{Parts: [][]api.Simple{nil}}}, false}, {[]api.Complex{{Parts: [][]api.Simple{{}}}}, false},
		{[]api.Complex{{Parts: [][]api.Simple{a, a}}}, false}, {[]api.Complex{{Parts: [][]api.Simple{a, a}, Combs: []int{1, 1}}}, false}, {[]api.Complex{{Parts: [][]api.Simple{a, nil}, Combs: []int{1}}}, false}, {[]api.Complex{{Parts: [][]api.Simple{nil, a}, Combs: []int{2}}}, false}, {[]api.Complex{{Parts: [][]api.Simple{a, {}, a}, Combs: []int{2, 2}}}, false},
		{[]api.Complex{{Parts: [][]api.Simple{a}}, {}}, false}, {[]api.Complex{{}, {Parts: [][]api.Simple{a}}}, false}, {[]api.Complex{{Parts: [][]api.Simple{a}}, {Parts: [][]api.Simple{a, a}, Combs: []int{5}}}, false}, {[]api.Complex{{Parts: [][]api.Simple{a}}, {Parts: [][]api.Simple{a, a, a}, Combs: []int{4, 3}}}, true},
	} {
		for deep, l := range [][]api.Complex{c.list, one(api.Simple{Kind: api.Is, List: c.list}), one(api.Simple{Kind: api.Root}, api.Simple{Kind: api.Where, List: one(api.Simple{Kind: api.Not, List: c.list})})} {
			if got := Good(l); got != c.want || (Print(l) != "") != c.want {
				t.Errorf("Good of list %d, %d deep: %v, Print %q", i, deep, got, Print(l))
			}
		}
	}
	for comb := -2; comb < 8; comb++ {
		for _, place := range []int{0, 1, 2} {
			l := []api.Complex{{Parts: [][]api.Simple{a, a, a, a}, Combs: []int{1, 2, 4}}}
			l[0].Combs[place] = comb
			if got := Good(l); got != (comb >= 1 && comb <= 4) {
				t.Errorf("Good with comb %d: %v", comb, got)
			}
		}
	}
	for _, comb := range []int{math.MinInt, math.MaxInt, 1<<32 + 1, 1 << 62} {
		if Good([]api.Complex{{Parts: [][]api.Simple{a, a}, Combs: []int{comb}}}) {
			t.Errorf("Good with comb %d", comb)
		}
	}
}

// TestGoodDeep: nested just 32 deep, and one deeper, and very deep; wherever that stands.
func TestGoodDeep(t *testing.T) {
	tag := one(api.Simple{Kind: api.Tag, Name: "a"})
	for _, deep := range []int{1, 2, 3, 31, 32, 33, 34, 64, 65, 1000, 1 << 18} {
		for _, kind := range []int{api.Not, api.Is, api.Where} {
			l := nested(deep, kind, tag)
			beside := append(append([]api.Complex{}, tag...), api.Complex{Parts: [][]api.Simple{tag[0].Parts[0], l[0].Parts[0]}, Combs: []int{2}})
			for _, l := range [][]api.Complex{l, beside} {
				if got := Good(l); got != (deep <= 32) || (Print(l) != "") != (deep <= 32) {
					t.Errorf("Good, nested %d deep: %v", deep, got)
				}
			}
		}
	}
	l := nested(32, api.Not, tag)
	if got, want := Print(l), strings.Repeat(":not(", 31)+"a"+strings.Repeat(")", 31); got != want {
		t.Errorf("Print, nested 32 deep: %s", got)
	}
	if exact(must(t, Print(l))) != exact(l) {
		t.Error("Text of Print, nested 32 deep")
	}
	// An attribute, and a place, are no List.
	for _, s := range []api.Simple{{Kind: api.AttrSel, Name: "a", Op: 1, Value: "b"}, {Kind: api.Nth, A: 3, B: -2}} {
		if l := nested(32, api.Is, one(s)); !Good(l) || exact(must(t, Print(l))) != exact(l) {
			t.Errorf("Good of kind %d, nested 32 deep", s.Kind)
		}
	}
	// What Text reads may be nested deeper than what is good.
	if l := must(t, strings.Repeat(":is(", 32)+"a"); Good(l) || Print(l) != "" {
		t.Error("Good of what Text read, nested 33 deep")
	}
	if l := must(t, strings.Repeat(":is(", 31)+"a"); !Good(l) {
		t.Error("Good of what Text read, nested 32 deep")
	}
}

// TestGoodOfItself: a list that is its own List is nested deeper than any.
func TestGoodOfItself(t *testing.T) {
	l := one(api.Simple{Kind: api.Root}, api.Simple{Kind: api.Not}, api.Simple{Kind: api.Is})
	l[0].Parts[0][1].List, l[0].Parts[0][2].List = l, l
	if Good(l) || Print(l) != "" {
		t.Error("Good of a list that is in itself")
	}
}

// TestPrint is P5.3.
func TestPrint(t *testing.T) {
	for _, c := range []struct{ in, out string }{
		{"a", "a"}, {"*", "*"}, {"DIV", "div"}, {"a,b", "a, b"}, {" a , b ,c ", "a, b, c"}, {"a b", "a b"}, {"a>b", "a > b"}, {"a+b", "a + b"}, {"a~b", "a ~ b"}, {"a>b c+d~e,f", "a > b c + d ~ e, f"}, {"a  /**/  b", "a b"},
		{"#a.b[c]", "#a.b[c]"}, {"#\\31 ", "#\\31 "}, {".\\31 a b", ".\\31 a b"}, {"\\31  b", "\\31  b"}, {".a\\.b", ".a\\.b"}, {"#-", "none"}, {"#\\-", "#\\-"}, {"\\*", "*"}, {"\\*a", "\\*a"}, {"[\\*]", "[\\*]"}, {"[\\*=x]", "[\\*=\"x\"]"}, {".\\*", ".\\*"},
		{"[A]", "[a]"}, {"[a=b]", "[a=\"b\"]"}, {"[a~=b]", "[a~=\"b\"]"}, {"[a|=b]", "[a|=\"b\"]"}, {"[a^=b]", "[a^=\"b\"]"}, {"[a$=b]", "[a$=\"b\"]"}, {"[a*=b]", "[a*=\"b\"]"}, {"[a='']", "[a=\"\"]"}, {"[ a = 'b\"c' ]", "[a=\"b\\\"c\"]"}, {"[a='\\a ']", "[a=\"\\a \"]"}, {"[a.b]", "none"}, {"[a\\.b='\\\\']", "[a\\.b=\"\\\\\"]"},
		{":ROOT", ":root"}, {":empty", ":empty"}, {":first-child", ":nth-child(1)"}, {":last-child", ":nth-last-child(1)"}, {":only-child", ":nth-child(1):nth-last-child(1)"}, {":nth-child(2n + 1)", ":nth-child(odd)"}, {":nth-child(2n)", ":nth-child(even)"}, {":nth-last-child(-N+3)", ":nth-last-child(-n+3)"}, {":nth-child(3n - 2)", ":nth-child(3n-2)"}, {":nth-child(-5)", ":nth-child(-5)"},
		{":not( a )", ":not(a)"}, {":is( a,b )", ":is(a, b)"}, {":where(a>b,c d)", ":where(a > b, c d)"}, {"x:not(:is(a,b):where(*)) y", "x:not(:is(a, b):where(*)) y"},
		{"a\x00", "a\ufffd"}, {"\\1 ", "\\1 "}, {"#\\7f x", "#\\7f x"},
	} {
		l, _ := Text(c.in)
		if len(l) == 0 {
			check(t, "Text", c.in, "none", c.out)
			continue
		}
		check(t, "Print", c.in, Print(l), c.out)
		if back := must(t, c.out); exact(back) != exact(l) {
			t.Errorf("Text of Print of %q: %s", c.in, show(back))
		}
	}
	for _, l := range [][]api.Complex{nil, {}, {{}}, one(), one(api.Simple{}), one(api.Simple{Kind: api.Not})} {
		if got := Print(l); got != "" {
			t.Errorf("Print of %s: %q", exact(l), got)
		}
	}
}

// TestByChance: lists that were made good are, with P5.4; and with one thing changed Good says what Text says.
func TestByChance(t *testing.T) {
	m := newMaker(54)
	for range 6000 {
		l := m.list(1 + m.Intn(3))
		if len(written(l)) > api.MaxText {
			continue
		}
		if !Good(l) {
			t.Fatalf("Good of %s: false", exact(l))
		}
		checkGood(t, l)
		if back, e := Text(Print(l)); e != api.OK || !Same(back, l) || exact(back) != exact(l) {
			t.Fatalf("Text of Print of %s: %s, %v", exact(l), exact(back), e)
		}
		count := 0
		eachSimple(l, func(s *api.Simple) { count++ })
		place := m.Intn(count)
		eachSimple(l, func(s *api.Simple) {
			if place == 0 {
				m.spoil(s)
			}
			place--
		})
		checkGood(t, l)
	}
}

// spoil changes one field.
func (m maker) spoil(s *api.Simple) {
	switch m.Intn(7) {
	case 0:
		s.Kind = m.Intn(13)
	case 1:
		s.Name = m.pick("", "A", "*", s.Name+"\x00", s.Name+"\xc3", s.Name+"Z")
	case 2:
		s.Op = m.Intn(9) - 1
	case 3:
		s.Value = m.pick("", "v", "\x00", "\xff")
	case 4:
		s.A = []int{0, 1, 1000001, -1000001}[m.Intn(4)]
	case 5:
		s.B = []int{0, 1, 1000001, -1000001}[m.Intn(4)]
	case 6:
		s.List = [][]api.Complex{nil, one(), one(api.Simple{Kind: api.Root})}[m.Intn(3)]
	}
}

// TestPrintTooLong: Print does not ask how long a text may be.
func TestPrintTooLong(t *testing.T) {
	l := one(api.Simple{Kind: api.Class, Name: strings.Repeat("a", api.MaxText)})
	if got := Print(l); got != "."+strings.Repeat("a", api.MaxText) {
		t.Errorf("Print of a long name: %d bytes", len(got))
	}
	if _, e := Text(Print(l)); e != api.ErrText {
		t.Errorf("Text of a long name: %v", e)
	}
	l[0].Parts[0][0].Name = strings.Repeat("a", api.MaxText-1)
	if exact(must(t, Print(l))) != exact(l) {
		t.Error("Text of Print of just MaxText bytes")
	}
}
