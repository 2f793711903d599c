package sheet

import (
	"fmt"
	"math"
	"strings"
	"testing"

	"gouache/api"
)

// tooLong: one byte more than a text may have.
var tooLong = strings.Repeat("a{}", 21845) + "  "

// noSheets: numbers that are no sheet's, where at most nine were used.
var noSheets = []int{0, -1, -2, 10, 64, 65, 1 << 16, 1 << 40, math.MaxInt, math.MinInt, math.MinInt + 1}

func TestExample(t *testing.T) {
	s, id, err := New().Add(api.Author, "a{x:y} b{} 1{}")
	is(t, "Add", []any{id, err, s.Count(1)}, "[1 ok 2]")
	is(t, "All", show(s), "[1] 1/3/0 a{x:y} 1/3/1 b{}")
	s = s.insert(t, 1, 0, "c{}")
	is(t, "behind Insert", show(s), "[1] 1/3/0 c{} 1/3/1 a{x:y} 1/3/2 b{}")
}

func TestNew(t *testing.T) {
	s := New()
	is(t, "nothing is there", show(s), "[] ")
	for _, n := range noSheets {
		is(t, "Count", s.Count(n), 0)
		refusedDrop(t, s, n, api.ErrNoNode)
		refusedInsert(t, s, n, 0, "a{}", api.ErrNoNode)
		refusedDelete(t, s, n, 0, api.ErrNoNode)
	}
	is(t, "another one", New() == s, false)
}

func TestAdd(t *testing.T) {
	s := New().add(t, api.Agent, "a{b:c} d{}").add(t, api.User, "").add(t, api.Author, "e{}").add(t, api.Agent, "1{}")
	is(t, "sheets of each origin", show(s), "[1 2 3 4] 1/1/0 a{b:c} 1/1/1 d{} 3/3/0 e{}")
	is(t, "Count", []int{s.Count(1), s.Count(2), s.Count(3), s.Count(4), s.Count(5)}, "[2 0 1 0 0]")
	twice := s.add(t, api.User, "e{}").add(t, api.User, "e{}")
	is(t, "the same text again", show(twice), show(s)[:8]+" 5 6] "+show(s)[10:]+" 5/2/0 e{} 6/2/0 e{}")
	for _, origin := range []int{0, 4, 5, -1, -3, math.MaxInt, math.MinInt, 1 << 32, 1<<32 + 1} {
		refusedAdd(t, s, origin, "a{}", api.ErrRange)
		refusedAdd(t, s, origin, tooLong, api.ErrRange)
	}
	for origin := api.Agent; origin <= api.Author; origin++ {
		refusedAdd(t, s, origin, tooLong, api.ErrText)
	}
	is(t, "what is refused takes no number", s.add(t, api.User, "z{}").Ids(), "[1 2 3 4 5]")
}

func TestDrop(t *testing.T) {
	s := New().add(t, 1, "a{} b{}").add(t, 2, "c{}").add(t, 3, "d{} e{}")
	is(t, "the first", show(s.drop(t, 1)), "[2 3] 2/2/0 c{} 3/3/0 d{} 3/3/1 e{}")
	is(t, "a middle one", show(s.drop(t, 2)), "[1 3] 1/1/0 a{} 1/1/1 b{} 3/3/0 d{} 3/3/1 e{}")
	is(t, "the last", show(s.drop(t, 3)), "[1 2] 1/1/0 a{} 1/1/1 b{} 2/2/0 c{}")
	is(t, "all", show(s.drop(t, 2).drop(t, 3).drop(t, 1)), "[] ")
	is(t, "the old ones", show(s), "[1 2 3] 1/1/0 a{} 1/1/1 b{} 2/2/0 c{} 3/3/0 d{} 3/3/1 e{}")
	for n := 1; n <= 3; n++ {
		less := s.drop(t, n)
		refusedDrop(t, less, n, api.ErrNoNode)
		refusedInsert(t, less, n, 0, "a{}", api.ErrNoNode)
		refusedDelete(t, less, n, 0, api.ErrNoNode)
		is(t, "Count of what is gone", []int{less.Count(n), s.Count(n)}, []int{0, []int{2, 1, 2}[n-1]})
	}
	for _, n := range noSheets {
		refusedDrop(t, s, n, api.ErrNoNode)
	}
	refusedDrop(t, s, 4, api.ErrNoNode)
}

// TestNumbers: each is used once, whichever sheets are gone.
func TestNumbers(t *testing.T) {
	s := New().add(t, 1, "a{}").drop(t, 1)
	is(t, "none", show(s), "[] ")
	s = s.add(t, 2, "b{}")
	is(t, "behind a Drop of the only one", show(s), "[2] 2/2/0 b{}")
	s = s.add(t, 3, "").drop(t, 3).add(t, 1, "c{}")
	is(t, "behind a Drop of the last one", show(s), "[2 4] 2/2/0 b{} 4/1/0 c{}")
	s = s.drop(t, 2).add(t, 1, "d{}")
	is(t, "behind a Drop of the first one", show(s), "[4 5] 4/1/0 c{} 5/1/0 d{}")
	is(t, "those that are made of the same ones", []string{show(s.add(t, 1, "e{}")), show(s.add(t, 2, "f{}"))},
		"[[4 5 6] 4/1/0 c{} 5/1/0 d{} 6/1/0 e{} [4 5 6] 4/1/0 c{} 5/1/0 d{} 6/2/0 f{}]")
	for n := range 200 {
		s = s.add(t, 1, "").drop(t, 6+n)
	}
	is(t, "behind many", s.add(t, 1, "").Ids(), "[4 5 206]")
}

func TestInsert(t *testing.T) {
	s := New().add(t, 3, "a{} b{}").add(t, 1, "").add(t, 2, "c{}")
	is(t, "at the front", show(s.insert(t, 1, 0, "x{y:z}")), "[1 2 3] 1/3/0 x{y:z} 1/3/1 a{} 1/3/2 b{} 3/2/0 c{}")
	is(t, "in the midst", show(s.insert(t, 1, 1, "x{y:z}")), "[1 2 3] 1/3/0 a{} 1/3/1 x{y:z} 1/3/2 b{} 3/2/0 c{}")
	is(t, "at the end", show(s.insert(t, 1, 2, "x{y:z}")), "[1 2 3] 1/3/0 a{} 1/3/1 b{} 1/3/2 x{y:z} 3/2/0 c{}")
	is(t, "into none", show(s.insert(t, 2, 0, "x{}")), "[1 2 3] 1/3/0 a{} 1/3/1 b{} 2/1/0 x{} 3/2/0 c{}")
	is(t, "into the last sheet", show(s.insert(t, 3, 1, "x{}")), "[1 2 3] 1/3/0 a{} 1/3/1 b{} 3/2/0 c{} 3/2/1 x{}")
	is(t, "one that is there", show(s.insert(t, 3, 0, "c{}")), "[1 2 3] 1/3/0 a{} 1/3/1 b{} 3/2/0 c{} 3/2/1 c{}")
	is(t, "the old ones", show(s), "[1 2 3] 1/3/0 a{} 1/3/1 b{} 3/2/0 c{}")
	for _, index := range []int{-1, 3, 4, math.MinInt, math.MaxInt, 1 << 32} {
		refusedInsert(t, s, 1, index, "x{}", api.ErrIndex)
	}
	for _, index := range []int{-1, 1} {
		refusedInsert(t, s, 2, index, "x{}", api.ErrIndex)
	}
	for _, n := range append([]int{4}, noSheets...) {
		refusedInsert(t, s, n, 0, "x{}", api.ErrNoNode)
	}
}

// noRules: texts that are not one rule alone, or of one that is left out.
var noRules = []string{
	"", " ", "a", "a b", "/*a{}*/", "@x;", "@x{}", "@x a{}", "<!---->", "}", ";", "a;b",
	"a{}b{}", "a{} a{}", "a{}{}", "{}a{}", "a{} 1{}", "1{} a{}", "1{}2{}", "a{}b{", "a{}b{}c{}", "a{};b{}",
	"1{}", "{}", "a,{}", ",a{}", "a,,b{}", "a >{}", "> a{}", "a:b{}", "a::b{}", "#1{}", "a[b=]{}", "a:not(){}", "}a{}", ";a{}", "a;b{}", "(a){}", "a b !{}", "\xff\"{}", "a\"{}",
	strings.Repeat(":not(", 32) + "a" + strings.Repeat(")", 32) + "{}",
}

// oneRules: texts of one rule alone, and that rule.
var oneRules = [][2]string{
	{"a{}", "a{}"}, {" \n\ta \f{ } ", "a{}"}, {"a{", "a{}"}, {"a{b:c", "a{b:c}"}, {"A{B:C}", "a{b:C}"},
	{"@x;a{}", "a{}"}, {"@x{}a{}@y", "a{}"}, {"@x y; a{} @z b{}", "a{}"}, {"<!-- a{} -->", "a{}"}, {"/*1{}*/a{/*}*/}/*b{}*/", "a{}"},
	{"a{}b", "a{}"}, {"a{} b c", "a{}"}, {"a{} }", "a{}"}, {"a{};", "a{}"}, {"a{} 1", "a{}"},
	{"a{b{c}d:e}", "a{}"}, {"a{b:{c}d;e:f}", "a{b:{c}d;e:f}"}, {"a, b > c{d : e ! important;;f}", "a, b > c{d:e!important}"},
	{strings.Repeat(":not(", 31) + "a" + strings.Repeat(")", 31) + "{}", strings.Repeat(":not(", 31) + "a" + strings.Repeat(")", 31) + "{}"},
}

func TestInsertText(t *testing.T) {
	s := New().add(t, 3, "a{} b{}")
	for _, text := range noRules {
		for index := range 3 {
			refusedInsert(t, s, 1, index, text, api.ErrSyntax)
		}
	}
	for _, one := range oneRules {
		is(t, one[0], show(s.insert(t, 1, 1, one[0])), "[1] 1/3/0 a{} 1/3/1 "+one[1]+" 1/3/2 b{}")
		is(t, one[0], read(t, one[0]), one[1])
	}
	is(t, "behind them", show(s), "[1] 1/3/0 a{} 1/3/1 b{}")
}

func TestDelete(t *testing.T) {
	s := New().add(t, 3, "a{} b{} c{}").add(t, 1, "").add(t, 2, "d{}")
	is(t, "the first", show(s.remove(t, 1, 0)), "[1 2 3] 1/3/0 b{} 1/3/1 c{} 3/2/0 d{}")
	is(t, "a middle one", show(s.remove(t, 1, 1)), "[1 2 3] 1/3/0 a{} 1/3/1 c{} 3/2/0 d{}")
	is(t, "the last", show(s.remove(t, 1, 2)), "[1 2 3] 1/3/0 a{} 1/3/1 b{} 3/2/0 d{}")
	is(t, "the only one", show(s.remove(t, 3, 0)), "[1 2 3] 1/3/0 a{} 1/3/1 b{} 1/3/2 c{}")
	is(t, "all", show(s.remove(t, 1, 1).remove(t, 3, 0).remove(t, 1, 1).remove(t, 1, 0)), "[1 2 3] ")
	is(t, "the old ones", show(s), "[1 2 3] 1/3/0 a{} 1/3/1 b{} 1/3/2 c{} 3/2/0 d{}")
	for _, index := range []int{-1, 3, 4, math.MinInt, math.MaxInt, 1 << 32} {
		refusedDelete(t, s, 1, index, api.ErrIndex)
	}
	for _, index := range []int{-1, 0, 1} {
		refusedDelete(t, s, 2, index, api.ErrIndex)
		refusedDelete(t, s.remove(t, 3, 0), 3, index, api.ErrIndex)
	}
	for _, n := range append([]int{4}, noSheets...) {
		for _, index := range []int{-1, 0, 7} {
			refusedDelete(t, s, n, index, api.ErrNoNode)
		}
	}
}

// TestOrderOfErrors: where several hold at once, the first one that the chapter names.
func TestOrderOfErrors(t *testing.T) {
	s := New().add(t, 3, "a{} b{}")
	for _, text := range []string{"c{}", "", "1{}", tooLong} {
		refusedAdd(t, s, 4, text, api.ErrRange)
		for _, index := range []int{-1, 0, 2, 3} {
			refusedInsert(t, s, 2, index, text, api.ErrNoNode)
			if index < 0 || index > 2 {
				refusedInsert(t, s, 1, index, text, api.ErrIndex)
			}
		}
	}
	for index := range 3 {
		refusedInsert(t, s, 1, index, tooLong, api.ErrText)
		refusedInsert(t, s, 1, index, strings.Repeat("1", api.MaxText+1), api.ErrText)
		refusedInsert(t, s, 1, index, strings.Repeat("1", api.MaxText), api.ErrSyntax)
	}
	is(t, "behind them", show(s), "[1] 1/3/0 a{} 1/3/1 b{}")
}

// TestUnmade: of Sheets that no call made.
func TestUnmade(t *testing.T) {
	for what, s := range map[string]*Sheets{"nil": nil, "zero": {}, "new": new(Sheets)} {
		for range 2 {
			for _, origin := range []int{0, 1, 2, 3, 4, -1} {
				for _, text := range []string{"a{}", "", "1{}", tooLong} {
					refusedAdd(t, s, origin, text, api.ErrMade)
				}
			}
			for _, n := range append([]int{1, 2}, noSheets...) {
				refusedDrop(t, s, n, api.ErrMade)
				is(t, what+": Count", s.Count(n), 0)
				for _, index := range []int{0, 1, -1, math.MaxInt, math.MinInt} {
					refusedDelete(t, s, n, index, api.ErrMade)
					for _, text := range []string{"a{}", "", "1{}", tooLong} {
						refusedInsert(t, s, n, index, text, api.ErrMade)
					}
				}
			}
			is(t, what+": Ids, All", []int{len(s.Ids()), len(s.All())}, "[0 0]")
		}
		if s != nil {
			is(t, what+": it stays", fmt.Sprintf("%+v", *s), fmt.Sprintf("%+v", Sheets{}))
		}
	}
}
