package trie

import (
	"fmt"
	"math/rand"
	"testing"
)

// step: one of the calls that make a trie of another one.
type step struct {
	drop bool
	n    int
}

func (s step) String() string {
	if s.drop {
		return fmt.Sprintf("Drop(%d)", s.n)
	}
	return fmt.Sprintf("Put(%d)", s.n)
}

// one: a trie with what the oracle says of it.
type one struct {
	trie *Trie[string]
	says oTrie
}

func (o one) step(s step, v string) one {
	if s.drop {
		return one{o.trie.Drop(s.n), o.says.drop(s.n)}
	}
	return one{o.trie.Put(s.n, v), o.says.put(s.n, v)}
}

// follow: all ways of going on by at most so many steps; whatever was made on the way is asked again behind all that was made of it.
func follow(t *testing.T, what string, made []one, steps []step, left int) {
	last := made[len(made)-1]
	agree(t, what, last.trie, last.says, plain)
	for _, o := range made {
		agreeFresh(t, what, o.trie, last.trie, o.says, last.says)
	}
	if left == 0 {
		return
	}
	for i, s := range steps {
		next := last.step(s, fmt.Sprint(left, i))
		if next.trie == last.trie != (oFresh(last.says, next.says) == 0) {
			t.Fatalf("%s %v: the very same one: %v", what, s, next.trie == last.trie)
		}
		follow(t, fmt.Sprint(what, " ", s), append(made[:len(made):len(made)], next), steps, left-1)
	}
	agree(t, what+" again", last.trie, last.says, plain)
}

func TestAllShortWays(t *testing.T) {
	var steps []step
	for _, n := range []int{0, 1, 0x10, 0x10001, 0xfffff} {
		steps = append(steps, step{false, n}, step{true, n})
	}
	steps = append(steps, step{false, -1}, step{false, 1 << 20}, step{true, 1 << 20})
	clock := 0
	follow(t, "New", []one{{New[string](), oNew(&clock)}}, steps, 3)
	follow(t, "nil", []one{{nil, oUnmade(&clock)}}, steps, 3)
	follow(t, "zero", []one{{&Trie[string]{}, oUnmade(&clock)}}, steps, 3)
	follow(t, "New, few", []one{{New[string](), oNew(&clock)}}, steps[:6], 5)
}

// numbers by chance: many of few, so that they meet and part everywhere, and some that may not be.
func anyNumber(r *rand.Rand) int {
	switch r.Intn(8) {
	case 0:
		return r.Intn(1 << 20)
	case 1:
		return []int{-1, -16, 1 << 20, 1<<20 + 1, 1<<63 - 1, -1 << 63, 1 << 40, 0, 1<<20 - 1}[r.Intn(9)]
	}
	n := 0
	for range 5 {
		n = n<<4 + []int{0, 1, 15}[r.Intn(3)]
	}
	return n
}

func TestByChance(t *testing.T) {
	for seed := range int64(40) {
		r := rand.New(rand.NewSource(seed))
		clock := 0
		pool := []one{{New[string](), oNew(&clock)}, {New[string](), oNew(&clock)}, {nil, oUnmade(&clock)}}
		for i := range 200 {
			from := pool[r.Intn(len(pool))]
			if r.Intn(2) == 0 {
				from = pool[len(pool)-1]
			}
			s := step{r.Intn(3) == 0, anyNumber(r)}
			if l := from.says.has; s.drop && len(l) > 0 && r.Intn(4) > 0 {
				s.n = someOf(r, from.trie)
			}
			made := from.step(s, fmt.Sprint(seed, i))
			what := fmt.Sprintf("seed %d step %d %v", seed, i, s)
			agree(t, what, made.trie, made.says, plain)
			agreeFresh(t, what, from.trie, made.trie, from.says, made.says)
			other := pool[r.Intn(len(pool))]
			agreeFresh(t, what+", another", other.trie, made.trie, other.says, made.says)
			pool = append(pool, made)
		}
		for i, o := range pool {
			agree(t, fmt.Sprintf("seed %d again %d", seed, i), o.trie, o.says, plain)
		}
	}
}

// someOf: a number that is there.
func someOf(r *rand.Rand, t *Trie[string]) int {
	left := r.Intn(t.Len())
	for n := range t.All() {
		if left == 0 {
			return n
		}
		left--
	}
	return -1
}

// TestFull: each number at once, in an order of its own, and each dropped again in another one.
func TestFull(t *testing.T) {
	const all = 1 << 20
	now := New[int]()
	for i := range all {
		now = now.Put(i*617413%all, i)
	}
	if now.Len() != all || now.Nodes() != 1+16+256+4096+65536 {
		t.Fatalf("full: Len %d, Nodes %d", now.Len(), now.Nodes())
	}
	full, want := now, 0
	for n, v := range full.All() {
		if n != want || v*617413%all != n {
			t.Fatalf("full: %d (%d) at place %d", n, v, want)
		}
		want++
	}
	if want != all || Fresh(New[int](), full) != 69905 || Fresh(full, full.Put(77, 0)) != 5 {
		t.Fatalf("full: %d told, Fresh %d and %d", want, Fresh(New[int](), full), Fresh(full, full.Put(77, 0)))
	}
	for i := range all {
		now = now.Drop(i * 22695477 % all)
	}
	if now.Len() != 0 || now.Nodes() != 1 || full.Len() != all {
		t.Fatalf("dropped: Len %d, Nodes %d; the full one: %d", now.Len(), now.Nodes(), full.Len())
	}
}
