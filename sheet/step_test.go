package sheet

import (
	"fmt"
	"math"
	"math/rand"
	"testing"

	"gouache/api"
)

// step: a call that changes: by one of the kinds of operations.
type step struct {
	kind                 int
	origin, sheet, index int
	text                 string
}

func (s step) String() string {
	switch s.kind {
	case api.OpSheet:
		return fmt.Sprintf("Add(%d, %.20q)", s.origin, s.text)
	case api.OpNoSheet:
		return fmt.Sprintf("Drop(%d)", s.sheet)
	case api.OpRule:
		return fmt.Sprintf("Insert(%d, %d, %.20q)", s.sheet, s.index, s.text)
	}
	return fmt.Sprintf("Delete(%d, %d)", s.sheet, s.index)
}

// one: Sheets with what the oracle says of them, and all that they told when they were made.
type one struct {
	sheets *Sheets
	says   oSheets
	first  string
}

// step: other Sheets, and that both tell the same number and error, and the same Sheets with an error.
func (o one) step(t *testing.T, what string, s step) (one, api.Errno) {
	t.Helper()
	var next *Sheets
	var says oSheets
	var got, want api.Errno
	id, saidId := 0, 0
	switch s.kind {
	case api.OpSheet:
		next, id, got = o.sheets.Add(s.origin, s.text)
		says, saidId, want = o.says.add(s.origin, s.text)
	case api.OpNoSheet:
		next, got = o.sheets.Drop(s.sheet)
		says, want = o.says.drop(s.sheet)
	case api.OpRule:
		next, got = o.sheets.Insert(s.sheet, s.index, s.text)
		says, want = o.says.insert(s.sheet, s.index, s.text)
	default:
		next, got = o.sheets.Delete(s.sheet, s.index)
		says, want = o.says.remove(s.sheet, s.index)
	}
	if id != saidId || got != want {
		t.Fatalf("%s %v: %d, %v, want %d, %v", what, s, id, got, saidId, want)
	}
	if (next == o.sheets) != (got != api.OK) {
		t.Fatalf("%s %v: %v, and the same ones: %v", what, s, got, next == o.sheets)
	}
	if got != api.OK {
		return o, got
	}
	agree(t, fmt.Sprint(what, " ", s), next, says)
	return one{next, says, whole(next)}, got
}

// stays: the Sheets tell what they told at first.
func (o one) stays(t *testing.T, what string) {
	t.Helper()
	if now := whole(o.sheets); now != o.first {
		t.Fatalf("%s: %s, and at first %s", what, now, o.first)
	}
}

func begun() one { return one{New(), oNew(), whole(New())} }

// texts: of no rule, of one, of two, of one that is left out alone, beside another one, and beside what is no rule at all.
var texts = []string{"", "a{1}", "a1{a:1}a,a{}", "1{}", "1{}aa{}", "@a;a a{a:a;a:1}1"}

// allSteps: each call, with numbers of sheets from -1 to beyond the last one, and indices likewise.
func allSteps(o oSheets) []step {
	var l []step
	for origin := -1; origin <= 4; origin++ {
		for _, text := range append([]string{tooLong}, texts...) {
			l = append(l, step{kind: api.OpSheet, origin: origin, text: text})
		}
	}
	for sheet := -1; sheet <= o.used+1; sheet++ {
		l = append(l, step{kind: api.OpNoSheet, sheet: sheet})
		for index := -1; index <= len(o.of(sheet))+1; index++ {
			l = append(l, step{kind: api.OpNoRule, sheet: sheet, index: index})
			for _, text := range append([]string{tooLong}, texts...) {
				l = append(l, step{kind: api.OpRule, sheet: sheet, index: index, text: text})
			}
		}
	}
	return l
}

// goodSteps: fewer calls, none of which is refused.
func goodSteps(o oSheets) []step {
	l := []step{{kind: api.OpSheet, origin: o.used%3 + 1, text: texts[2]}, {kind: api.OpSheet, origin: 3, text: ""}}
	for _, sheet := range o.ids() {
		l = append(l, step{kind: api.OpNoSheet, sheet: sheet})
		many := len(o.of(sheet))
		for index := range many + 1 {
			l = append(l, step{kind: api.OpRule, sheet: sheet, index: index, text: fmt.Sprintf("a{a:%d}", len(o.rows))})
			if index < many {
				l = append(l, step{kind: api.OpNoRule, sheet: sheet, index: index})
			}
		}
	}
	return l
}

// grown: all Sheets behind at most so many good steps.
func grown(t *testing.T, most int) []one {
	all := []one{begun()}
	for from := 0; most > 0; most-- {
		level := all[from:]
		from = len(all)
		for _, o := range level {
			for _, s := range goodSteps(o.says) {
				next, err := o.step(t, "grown", s)
				if err != api.OK {
					t.Fatalf("grown %v: %v", s, err)
				}
				all = append(all, next)
			}
		}
	}
	return all
}

// TestEachStep: each call of all Sheets behind up to three good steps; they are told again behind each call.
func TestEachStep(t *testing.T) {
	for i, o := range grown(t, 3) {
		what := fmt.Sprint("sheets ", i)
		for _, s := range allSteps(o.says) {
			next, err := o.step(t, what, s)
			o.stays(t, fmt.Sprint(what, " behind ", s))
			if err == api.OK {
				next.stays(t, fmt.Sprint(what, ", made by ", s))
			}
		}
		agree(t, what+" again", o.sheets, o.says)
	}
}

// TestAllWays: all rows of up to five good steps; all Sheets that were made on all ways are told again behind the last step.
func TestAllWays(t *testing.T) {
	all := grown(t, 5)
	for i, o := range all {
		what := fmt.Sprint("sheets ", i, " again")
		o.stays(t, what)
		agree(t, what, o.sheets, o.says)
	}
	if len(all) < 3000 {
		t.Errorf("only %d", len(all))
	}
}

// TestTwoOfOne: each two calls of the same Sheets: what the first one made stays behind the second, and so do the Sheets behind calls of both.
func TestTwoOfOne(t *testing.T) {
	for i, o := range grown(t, 2) {
		for _, a := range goodSteps(o.says) {
			for _, b := range goodSteps(o.says) {
				what := fmt.Sprintf("sheets %d, %v and %v", i, a, b)
				x, _ := o.step(t, what, a)
				y, _ := o.step(t, what, b)
				x.stays(t, what)
				for _, c := range goodSteps(x.says) {
					x.step(t, what, c)
				}
				for _, c := range goodSteps(y.says) {
					y.step(t, what, c)
				}
				x.stays(t, what)
				y.stays(t, what)
				o.stays(t, what)
			}
		}
	}
}

// TestUnmadeSteps: each call of Sheets that no call made.
func TestUnmadeSteps(t *testing.T) {
	for what, s := range map[string]*Sheets{"nil": nil, "zero": {}} {
		o := one{s, oSheets{}, whole(s)}
		agree(t, what, o.sheets, o.says)
		for _, s := range allSteps(oSheets{used: 2}) {
			if _, err := o.step(t, what, s); err != api.ErrMade {
				t.Errorf("%s %v: %v", what, s, err)
			}
			o.stays(t, what)
		}
	}
}

// anyStep: a call by chance: mostly of sheets that are there, and of places that are.
func anyStep(r *rand.Rand, o oSheets) step {
	s := step{origin: 1 + r.Intn(3), sheet: r.Intn(o.used + 2), text: fmt.Sprintf("a{a:%d}", r.Intn(1000))}
	if ids := o.ids(); len(ids) > 0 && r.Intn(8) > 0 {
		s.sheet = ids[r.Intn(len(ids))]
	}
	s.kind = []int{api.OpSheet, api.OpSheet, api.OpNoSheet, api.OpRule, api.OpRule, api.OpRule, api.OpRule, api.OpRule, api.OpNoRule, api.OpNoRule, api.OpNoRule}[r.Intn(11)]
	s.index = r.Intn(len(o.of(s.sheet)) + 1)
	if s.kind == api.OpRule && r.Intn(3) == 0 { // at the end, where lists might share their room
		s.index = len(o.of(s.sheet))
	}
	if r.Intn(4) == 0 || s.kind == api.OpSheet {
		s.text = texts[r.Intn(len(texts))]
	}
	if r.Intn(12) == 0 {
		wrong := []int{0, -1, o.used + 1, o.used + 2, 1 << 40, math.MinInt, math.MaxInt, 4}[r.Intn(8)]
		*[]*int{&s.origin, &s.sheet, &s.index}[r.Intn(3)] = wrong
	}
	if r.Intn(20) == 0 {
		s.text = tooLong
	}
	return s
}

// TestByChance: many calls, of the last Sheets and of older ones; all that were ever made are told again behind each call.
func TestByChance(t *testing.T) {
	for seed := range int64(20) {
		r := rand.New(rand.NewSource(seed))
		pool := []one{begun()}
		for i := range 90 {
			from := pool[len(pool)-1]
			if r.Intn(4) == 0 {
				from = pool[r.Intn(len(pool))]
			}
			s := anyStep(r, from.says)
			what := fmt.Sprintf("seed %d, step %d, %v", seed, i, s)
			next, err := from.step(t, what, s)
			for _, o := range pool {
				o.stays(t, what)
			}
			if err == api.OK {
				pool = append(pool, next)
			}
		}
		for i, o := range pool {
			agree(t, fmt.Sprintf("seed %d, sheets %d again", seed, i), o.sheets, o.says)
		}
	}
}

// TestLongByChance: many more calls of ever the last Sheets, up to many sheets and rules, and down again.
func TestLongByChance(t *testing.T) {
	r := rand.New(rand.NewSource(5))
	now := begun()
	most := 0
	for i := range 3000 {
		s := anyStep(r, now.says)
		if up := i/500%2 == 0; up && (s.kind == api.OpNoSheet || s.kind == api.OpNoRule) && r.Intn(4) > 0 {
			continue
		}
		now, _ = now.step(t, fmt.Sprint("step ", i), s)
		most = max(most, len(now.says.rows))
	}
	if most < 200 || now.says.used < 100 {
		t.Errorf("only %d rules, %d sheets", most, now.says.used)
	}
}
