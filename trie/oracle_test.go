package trie

import (
	"fmt"
	"maps"
	"slices"
	"strings"
	"testing"
)

// oTrie is a second telling of P6.1 to P6.3, without nodes: what there is stands in a map, and each beginning of a number (its first hex digits) has the stamp of when its node was made. Every change copies all of it.
type oTrie struct {
	has    map[int]string
	stamps map[string]int
	clock  *int
}

func oNew(clock *int) oTrie {
	*clock++
	return oTrie{map[int]string{}, map[string]int{"": *clock}, clock}
}

// oUnmade: one that no call made.
func oUnmade(clock *int) oTrie { return oTrie{clock: clock} }

func oWithin(n int) bool { return n >= 0 && n <= 1048575 }

// oBegins: the beginnings of none to four parts.
func oBegins(n int) []string {
	s, l := fmt.Sprintf("%05x", n), []string{}
	for k := range 5 {
		l = append(l, s[:k])
	}
	return l
}

func (o oTrie) put(n int, v string) oTrie {
	if !oWithin(n) {
		return o
	}
	made := oTrie{map[int]string{n: v}, map[string]int{}, o.clock}
	for m, w := range o.has {
		if m != n {
			made.has[m] = w
		}
	}
	maps.Copy(made.stamps, o.stamps)
	for _, b := range oBegins(n) {
		*o.clock++
		made.stamps[b] = *o.clock
	}
	return made
}

func (o oTrie) drop(n int) oTrie {
	if _, ok := o.has[n]; !ok {
		return o
	}
	made := oTrie{maps.Clone(o.has), maps.Clone(o.stamps), o.clock}
	delete(made.has, n)
	for _, b := range oBegins(n) {
		*o.clock++
		made.stamps[b] = *o.clock
		if b != "" && !made.begins(b) {
			delete(made.stamps, b)
		}
	}
	return made
}

// begins: has some number that beginning?
func (o oTrie) begins(b string) bool {
	for n := range o.has {
		if strings.HasPrefix(fmt.Sprintf("%05x", n), b) {
			return true
		}
	}
	return false
}

// nodes: by the words of P6.2 alone.
func (o oTrie) nodes() int {
	if o.stamps == nil {
		return 0
	}
	set := map[string]int{"": 1}
	for n := range o.has {
		for _, b := range oBegins(n) {
			set[b] = 1
		}
	}
	return len(set)
}

func oFresh(old, now oTrie) int {
	count := 0
	for b, s := range now.stamps {
		if old.stamps[b] != s {
			count++
		}
	}
	return count
}

// probes: numbers to ask for, near the edges and beside those that are there.
func probes(o oTrie) []int {
	l := []int{-1 << 63, -1 << 32, -1 << 20, -16, -1, 0, 1, 15, 16, 17, 255, 256, 4096, 65535, 65536, 1<<20 - 1, 1 << 20, 1<<20 + 1, 1 << 24, 1 << 32, 1<<63 - 1}
	for n := range o.has {
		l = append(l, n, n-1, n+1, n^16, n^65536, n+1<<20, n-1<<20, n+1<<32, ^n)
	}
	return l
}

// agree: a trie tells what the oracle does.
func agree[V any](t *testing.T, what string, now *Trie[V], o oTrie, show func(V) string) {
	t.Helper()
	if now.Len() != len(o.has) || now.Nodes() != o.nodes() || len(o.stamps) != o.nodes() {
		t.Fatalf("%s: Len %d and Nodes %d, want %d and %d", what, now.Len(), now.Nodes(), len(o.has), o.nodes())
	}
	rising, told := slices.Sorted(maps.Keys(o.has)), 0
	for n, v := range now.All() {
		if told >= len(rising) || rising[told] != n || o.has[n] != show(v) {
			t.Fatalf("%s: All tells %d (%s) at place %d of %v", what, n, show(v), told, rising)
		}
		told++
	}
	if told != len(rising) {
		t.Fatalf("%s: All tells %d numbers, want %v", what, told, rising)
	}
	var none V
	for _, n := range probes(o) {
		want, there := o.has[n]
		if !there {
			want = show(none)
		}
		if v, ok := now.Get(n); ok != there || show(v) != want {
			t.Fatalf("%s: Get(%d): %s %v, want %s %v", what, n, show(v), ok, want, there)
		}
	}
}

// agreeFresh: Fresh of two is what the oracle tells, in both directions.
func agreeFresh(t *testing.T, what string, a, b *Trie[string], oa, ob oTrie) {
	t.Helper()
	if got, want := Fresh(a, b), oFresh(oa, ob); got != want {
		t.Fatalf("%s: Fresh forward %d, want %d", what, got, want)
	}
	if got, want := Fresh(b, a), oFresh(ob, oa); got != want {
		t.Fatalf("%s: Fresh backward %d, want %d", what, got, want)
	}
}

func plain(s string) string { return s }
