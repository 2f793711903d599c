package dom

import (
	"fmt"
	"math/rand"
	"strings"
	"testing"

	"gouache/api"
)

// step: a call that changes: by one of the kinds of operations.
type step struct {
	kind        int
	a, b, index int
	name, value string
}

func (s step) String() string {
	switch s.kind {
	case api.OpInsert:
		return fmt.Sprintf("Insert(%d, %d, %q)", s.a, s.index, s.name)
	case api.OpRemove:
		return fmt.Sprintf("Remove(%d)", s.a)
	case api.OpMove:
		return fmt.Sprintf("Move(%d, %d, %d)", s.a, s.b, s.index)
	case api.OpAttr:
		return fmt.Sprintf("SetAttr(%d, %q, %.9q)", s.a, s.name, s.value)
	}
	return fmt.Sprintf("DropAttr(%d, %q)", s.a, s.name)
}

// one: a tree with what the oracle says of it.
type one struct {
	doc  *Doc
	says oDoc
}

// step: another tree, and that both tell the same number and error, and the same tree with an error.
func (o one) step(t *testing.T, what string, s step) (one, api.Errno) {
	t.Helper()
	var d *Doc
	var says oDoc
	var got, want api.Errno
	id, saidId := 0, 0
	switch s.kind {
	case api.OpInsert:
		d, id, got = o.doc.Insert(s.a, s.index, s.name)
		says, saidId, want = o.says.insert(s.a, s.index, s.name)
	case api.OpRemove:
		d, got = o.doc.Remove(s.a)
		says, want = o.says.remove(s.a)
	case api.OpMove:
		d, got = o.doc.Move(s.a, s.b, s.index)
		says, want = o.says.move(s.a, s.b, s.index)
	case api.OpAttr:
		d, got = o.doc.SetAttr(s.a, s.name, s.value)
		says, want = o.says.setAttr(s.a, s.name, s.value)
	default:
		d, got = o.doc.DropAttr(s.a, s.name)
		says, want = o.says.dropAttr(s.a, s.name)
	}
	if id != saidId || got != want {
		t.Fatalf("%s %v: %d, %v, want %d, %v", what, s, id, got, saidId, want)
	}
	if (d == o.doc) != (got != api.OK) {
		t.Fatalf("%s %v: %v, and the same one: %v", what, s, got, d == o.doc)
	}
	return one{d, says}, got
}

// grown: all trees of at most so many elements, in each order in which they may be made.
func grown(t *testing.T, most int) []one {
	d, _ := New("r")
	all := []one{{d, oNew("r")}}
	for i := 0; i < len(all); i++ {
		o := all[i]
		for p := 1; o.doc.Len() < most && p <= o.doc.Len(); p++ {
			n, _ := o.doc.Node(p)
			for index := range len(n.Kids) + 1 {
				next, _ := o.step(t, "grown", step{kind: api.OpInsert, a: p, index: index, name: string(rune('a' + p))})
				all = append(all, next)
			}
		}
	}
	return all
}

// allSteps: each call, with numbers of elements from -1 to beyond the last one, and indices likewise.
func allSteps(next int, names, values []string) []step {
	var l []step
	for a := -1; a <= next; a++ {
		l = append(l, step{kind: api.OpRemove, a: a})
		for _, name := range names {
			l = append(l, step{kind: api.OpNoAttr, a: a, name: name})
			for _, v := range values {
				l = append(l, step{kind: api.OpAttr, a: a, name: name, value: v})
			}
			for index := -1; index <= next; index++ {
				l = append(l, step{kind: api.OpInsert, a: a, index: index, name: name})
			}
		}
		for b := -1; b <= next; b++ {
			for index := -1; index <= next; index++ {
				l = append(l, step{kind: api.OpMove, a: a, b: b, index: index})
			}
		}
	}
	return l
}

// TestEachStep: each call of each tree of up to five elements; the tree is asked again behind all of them.
func TestEachStep(t *testing.T) {
	all := grown(t, 5)
	if len(all) != 1+1+3+15+105 {
		t.Fatalf("%d trees", len(all))
	}
	for i, o := range all {
		what := fmt.Sprint("tree ", i)
		agree(t, what, o.doc, o.says)
		for _, s := range allSteps(o.doc.Next(), []string{"a", "A"}, []string{"x"}) {
			if next, err := o.step(t, what, s); err == api.OK {
				agree(t, fmt.Sprint(what, " ", s), next.doc, next.says)
			}
		}
		agree(t, what+" again", o.doc, o.says)
	}
}

// TestTwoSteps: each two calls, one behind the other, of each tree of up to four elements.
func TestTwoSteps(t *testing.T) {
	long := strings.Repeat("x", 1001)
	for i, o := range grown(t, 4) {
		what := fmt.Sprint("tree ", i)
		for _, s := range allSteps(o.doc.Next(), []string{"a", ""}, []string{"x", long}) {
			between, err := o.step(t, what, s)
			if err != api.OK {
				continue
			}
			behind := fmt.Sprint(what, " ", s)
			for _, s := range allSteps(between.doc.Next(), []string{"a", "class"}, []string{"", "y"}) {
				if next, err := between.step(t, behind, s); err == api.OK {
					agree(t, fmt.Sprint(behind, " ", s), next.doc, next.says)
				}
			}
			agree(t, behind+" again", between.doc, between.says)
		}
		agree(t, what+" again", o.doc, o.says)
	}
}

// TestUnmadeSteps: each call of a tree that no call made.
func TestUnmadeSteps(t *testing.T) {
	long := strings.Repeat("x", 1001)
	for what, d := range map[string]*Doc{"nil": nil, "zero": {}} {
		o := one{d, oDoc{}}
		agree(t, what, o.doc, o.says)
		for _, s := range allSteps(2, []string{"a", "", "A"}, []string{"x", long}) {
			if _, err := o.step(t, what, s); err != api.ErrMade {
				t.Errorf("%s %v: %v", what, s, err)
			}
		}
		agree(t, what+" again", o.doc, o.says)
	}
}

// anyStep: a call by chance: mostly of elements that are there, and of places that are.
func anyStep(r *rand.Rand, d *Doc) step {
	id := func() int {
		if r.Intn(12) == 0 {
			return []int{0, -1, d.Next(), d.Next() + 1, 1 << 20, -1 << 63, 1<<63 - 1, 1}[r.Intn(8)]
		}
		return 1 + r.Intn(d.Next())
	}
	s := step{a: id(), b: id(), name: []string{"a", "b", "class", "d", "", "é"}[r.Intn(6)], value: fmt.Sprint(r.Intn(9))}
	s.kind = []int{api.OpInsert, api.OpInsert, api.OpInsert, api.OpRemove, api.OpMove, api.OpMove, api.OpMove, api.OpAttr, api.OpAttr, api.OpNoAttr}[r.Intn(10)]
	s.index = r.Intn(5) - 1
	if s.kind == api.OpRemove && r.Intn(2) == 0 { // fewer of those with many below them
		s.a = 1 + d.Next()*3/4 + r.Intn(d.Next()/4+1)
	}
	if r.Intn(20) == 0 {
		s.value = strings.Repeat("x", 1000+r.Intn(2))
	}
	return s
}

// TestByChance: many calls, of the last tree and of older ones; each tree is asked again behind all of them.
func TestByChance(t *testing.T) {
	for seed := range int64(30) {
		r := rand.New(rand.NewSource(seed))
		d, _ := New("r")
		pool := []one{{d, oNew("r")}}
		for i := range 120 {
			from := pool[len(pool)-1]
			if r.Intn(4) == 0 {
				from = pool[r.Intn(len(pool))]
			}
			what := fmt.Sprintf("seed %d, step %d", seed, i)
			s := anyStep(r, from.doc)
			next, err := from.step(t, what, s)
			if err == api.OK {
				agree(t, fmt.Sprint(what, " ", s), next.doc, next.says)
				pool = append(pool, next)
			}
		}
		for i, o := range pool {
			agree(t, fmt.Sprintf("seed %d, tree %d again", seed, i), o.doc, o.says)
		}
	}
}
