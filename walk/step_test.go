package walk

import (
	"fmt"
	"math/rand"
	"testing"
)

// inserted: all that one Insert makes of a tree.
func inserted(o one) []one {
	var l []one
	for parent := 1; parent < o.doc.Next(); parent++ {
		for index := range o.doc.Len() {
			if n, ok := o.insert(parent, index); ok {
				l = append(l, n)
			}
		}
	}
	return l
}

// turned: all that one Remove or one Move makes of a tree.
func turned(o one) []one {
	var l []one
	for id := 1; id < o.doc.Next(); id++ {
		if n, ok := o.remove(id); ok {
			l = append(l, n)
		}
		for parent := 1; parent < o.doc.Next(); parent++ {
			for index := range o.doc.Len() {
				if n, ok := o.move(id, parent, index); ok {
					l = append(l, n)
				}
			}
		}
	}
	return l
}

// made: all that a step makes of each of many, all of which must agree.
func made(t *testing.T, what string, from []one, step func(one) []one) []one {
	t.Helper()
	var l []one
	for _, o := range from {
		for _, n := range step(o) {
			agree(t, fmt.Sprintf("%s %d", what, len(l)), n.doc, n.says)
			l = append(l, n)
		}
	}
	return l
}

// TestAllSmallTrees: all trees of up to six elements that Inserts make; of those of up to five what one Remove or Move makes of them; of those of up to four what two of these make, and one with an Insert behind it.
func TestAllSmallTrees(t *testing.T) {
	now := []one{begin(t)}
	agree(t, "New", now[0].doc, now[0].says)
	counts := []int{1, 1, 3, 15, 105, 945}
	for size := 1; size <= 6; size++ {
		what := fmt.Sprint("of ", size)
		if len(now) != counts[size-1] {
			t.Fatalf("%s: %d trees", what, len(now))
		}
		if size <= 5 {
			next := made(t, what+", turned", now, turned)
			if size <= 4 {
				made(t, what+", turned twice", next, turned)
				made(t, what+", turned and grown", next, inserted)
			}
		}
		if size < 6 {
			now = made(t, what+", grown", now, inserted)
		}
	}
}

// anyStep: a tree that some call makes by chance; the same one, if it is refused. Elements with more than a few below them are not removed, so that trees grow.
func anyStep(r *rand.Rand, o one) one {
	all := o.says.order()
	id, to := all[r.Intn(len(all))], all[r.Intn(len(all))]
	w, v := o.says.path(id), o.says.path(to)
	index := r.Intn(len(v[len(v)-1].kids) + 1)
	next := o
	switch k := r.Intn(10); {
	case k < 5:
		next, _ = o.insert(to, index)
	case k < 9:
		next, _ = o.move(id, to, index)
	case len(w[len(w)-1].order()) < 5:
		next, _ = o.remove(id)
	}
	return next
}

// TestByChance: long rows of calls; older trees are asked again behind all that was made of them.
func TestByChance(t *testing.T) {
	for seed := range int64(10) {
		r := rand.New(rand.NewSource(seed))
		now := begin(t)
		var old []one
		for i := range 150 {
			now = anyStep(r, now)
			if i%10 == 9 {
				agree(t, fmt.Sprintf("seed %d step %d", seed, i), now.doc, now.says)
				old = append(old, now)
			}
		}
		if now.doc.Len() < 30 {
			t.Errorf("seed %d: only %d elements", seed, now.doc.Len())
		}
		for i, o := range old {
			agree(t, fmt.Sprintf("seed %d again %d", seed, i), o.doc, o.says)
		}
	}
}
