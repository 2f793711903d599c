package sheet

import (
	"fmt"
	"strings"
	"testing"

	"gouache/api"
)

// rules: a text of so many rules.
func rules(many int) string { return strings.Repeat("a{}", many) }

// counts: how many rules each sheet has.
func counts(s *Sheets) []int {
	var l []int
	for _, id := range s.Ids() {
		l = append(l, s.Count(id))
	}
	return l
}

func TestMaxSheets(t *testing.T) {
	s := New()
	for n := 1; n <= api.MaxSheets; n++ {
		next, id, err := s.Add(n%3+1, rules(n%2))
		is(t, "its number", []any{id, err}, []any{n, api.OK})
		s = next
	}
	is(t, "so many", []int{len(s.Ids()), len(s.All())}, "[64 32]")
	for _, text := range []string{"", "a{}", "1{}", strings.Repeat(" ", api.MaxText)} {
		refusedAdd(t, s, 1, text, api.ErrLimit)
		refusedAdd(t, s, 0, text, api.ErrRange)
	}
	refusedAdd(t, s, 1, tooLong, api.ErrText)
	refusedAdd(t, s, 4, tooLong, api.ErrRange)
	s.insert(t, 64, 0, "a{}").remove(t, 64, 0)
	for _, n := range []int{1, 30, 64} {
		less := s.drop(t, n)
		more := less.add(t, 2, "b{}")
		is(t, "in the place of one that is gone", fmt.Sprint(more.Ids()[62:], more.Count(65), more.Count(n)), map[bool]string{true: "[63 65] 1 0", false: "[64 65] 1 0"}[n == 64])
		refusedAdd(t, more, 1, "", api.ErrLimit)
	}
	is(t, "behind them", []int{len(s.Ids()), len(s.All())}, "[64 32]")
}

// nearlyFull: Sheets of one rule fewer than there may be, in four sheets.
func nearlyFull(t *testing.T) *Sheets {
	t.Helper()
	s := New().add(t, 1, rules(21845)).add(t, 2, rules(21845)).add(t, 3, rules(21844)).add(t, 1, rules(1))
	is(t, "one fewer", counts(s), "[21845 21845 21844 1]")
	return s
}

func TestMaxRulesByAdd(t *testing.T) {
	s := nearlyFull(t)
	for _, many := range []int{2, 3, 21845} {
		refusedAdd(t, s, 1, rules(many), api.ErrLimit)
	}
	refusedAdd(t, s, 0, rules(2), api.ErrRange)
	refusedAdd(t, s, 1, rules(21846), api.ErrText)
	full := s.add(t, 2, "1{} b{} 2{}")
	is(t, "just so many", []any{counts(full), len(full.All())}, []any{[]int{21845, 21845, 21844, 1, 1}, api.MaxRules})
	for _, text := range []string{"a{}", "1{}a{}", "a{}b{}", rules(21845)} {
		refusedAdd(t, full, 3, text, api.ErrLimit)
	}
	is(t, "a sheet without rules", counts(full.add(t, 3, "").add(t, 3, "1{}")), "[21845 21845 21844 1 1 0 0]")
	is(t, "behind a Delete", counts(full.remove(t, 1, 7).add(t, 1, "a{}")), "[21844 21845 21844 1 1 1]")
	less := full.drop(t, 2)
	is(t, "behind a Drop", counts(less.add(t, 1, rules(21845))), "[21845 21844 1 1 21845]")
	refusedAdd(t, less.add(t, 1, rules(21844)), 1, rules(2), api.ErrLimit)
	is(t, "the old ones", []string{fmt.Sprint(counts(s)), fmt.Sprint(counts(full))}, "[[21845 21845 21844 1] [21845 21845 21844 1 1]]")
}

func TestMaxRulesByInsert(t *testing.T) {
	s := nearlyFull(t)
	for id := 1; id <= 4; id++ {
		many := s.Count(id)
		full := s.insert(t, id, many, "b{}")
		is(t, "just so many", len(full.All()), api.MaxRules)
		for index := range 2 {
			refusedInsert(t, full, id, index, "b{}", api.ErrLimit)
			refusedInsert(t, full, 5-id, index, "b{}", api.ErrLimit)
			refusedInsert(t, full, id, index, "1{}", api.ErrSyntax)
			refusedInsert(t, full, id, index, "", api.ErrSyntax)
			refusedInsert(t, full, id, index, "b{}b{}", api.ErrSyntax)
			refusedInsert(t, full, id, index, tooLong, api.ErrText)
		}
		refusedInsert(t, full, id, many+2, "b{}", api.ErrIndex)
		refusedInsert(t, full, id, -1, tooLong, api.ErrIndex)
		refusedInsert(t, full, 5, 0, "b{}", api.ErrNoNode)
		refusedAdd(t, full, 1, "b{}", api.ErrLimit)
		full.add(t, 1, "")
		is(t, "behind a Delete", full.remove(t, 5-id, 0).insert(t, id, 0, "c{}").Count(id), many+2)
		is(t, "behind a Drop", full.drop(t, 5-id).insert(t, id, 0, "c{}").Count(id), many+2)
	}
	is(t, "the old ones", counts(s), "[21845 21845 21844 1]")
}

// TestBothLimits: as many sheets, and as many rules, as there may be.
func TestBothLimits(t *testing.T) {
	s := New()
	for range api.MaxSheets {
		s = s.add(t, 1, rules(api.MaxRules/api.MaxSheets))
	}
	is(t, "so many", []int{len(s.Ids()), len(s.All())}, "[64 65536]")
	refusedAdd(t, s, 1, "", api.ErrLimit)
	refusedInsert(t, s, 64, 1024, "a{}", api.ErrLimit)
	is(t, "a rule in the place of another one", s.remove(t, 1, 1023).insert(t, 64, 1024, "b{}").Count(64), 1025)
	for id := range api.MaxSheets {
		s = s.drop(t, id+1)
	}
	is(t, "all are gone", show(s), "[] ")
	is(t, "one more", show(s.add(t, 3, "b{}")), "[65] 65/3/0 b{}")
}

// TestManyInserts: a sheet of many rules, one by one at the front, in the midst and at the end, and away again.
func TestManyInserts(t *testing.T) {
	const many = 1500
	s := New().add(t, 1, "")
	var want []int
	place := func(i int) int { return []int{0, len(want) / 2, len(want)}[i%3] }
	for i := range many {
		at := place(i)
		s = s.insert(t, 1, at, fmt.Sprintf("a{b:%d}", i))
		want = append(want[:at:at], append([]int{i}, want[at:]...)...)
	}
	for i := 0; len(want) > 0; i++ {
		if i%50 == 0 {
			var l []int
			for _, p := range s.All() {
				n := 0
				fmt.Sscan(p.Rule.Decls[0].Value[0].Token.Text, &n)
				l = append(l, n)
			}
			is(t, fmt.Sprint("behind ", i), l, want)
		}
		at := min(place(i), len(want)-1)
		s = s.remove(t, 1, at)
		want = append(want[:at:at], want[at+1:]...)
	}
	is(t, "none is left", show(s), "[1] ")
}
