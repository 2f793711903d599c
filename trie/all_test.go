package trie

import (
	"fmt"
	"testing"
)

func some() *Trie[string] {
	t := New[string]()
	for _, n := range []int{1<<20 - 1, 0x22222, 7, 0, 0x10000, 8, 0x22223, 0x22322} {
		t = t.Put(n, fmt.Sprintf("%x", n))
	}
	return t
}

var someTold = []string{"0 0", "7 7", "8 8", "65536 10000", "139810 22222", "139811 22223", "140066 22322", "1048575 fffff"}

// first: the first so many that an iterator tells, for which it is left behind the last of them.
func first(all func(func(int, string) bool), most int) []string {
	var l []string
	for n, v := range all {
		l = append(l, fmt.Sprint(n, " ", v))
		if len(l) == most {
			break
		}
	}
	return l
}

func TestAllRises(t *testing.T) {
	is(t, "all", first(some().All(), -1), someTold)
}

func TestAllIsLeft(t *testing.T) {
	all := some().All()
	for most := 1; most <= len(someTold); most++ {
		is(t, fmt.Sprint("the first ", most), first(all, most), someTold[:most])
	}
	for most := range len(someTold) {
		count := 0
		all(func(int, string) bool {
			count++
			return count <= most
		})
		is(t, "told till false is answered", count, most+1)
	}
	is(t, "gone over again", first(all, -1), someTold)
}

func TestAllNested(t *testing.T) {
	all, count := some().All(), 0
	for n := range all {
		for m := range all {
			if m > n {
				break
			}
			count++
		}
	}
	is(t, "pairs", count, 8*9/2)
}

func TestAllStaysAsItWas(t *testing.T) {
	a := some()
	all := a.All()
	var told []string
	for n, v := range all {
		told = append(told, fmt.Sprint(n, " ", v))
		a = a.Drop(n).Put(n+1, "x").Drop(1<<20 - 1)
	}
	is(t, "while others are made", told, someTold)
	is(t, "behind them", first(all, -1), someTold)

	b := some()
	all = b.All()
	*b = *New[string]()
	is(t, "where the trie is overwritten", first(all, -1), someTold)

	var u Trie[string]
	all = u.All()
	u = *some()
	is(t, "where one that no call made is", len(first(all, -1)), 0)
}

func TestAllOfNothing(t *testing.T) {
	var none *Trie[string]
	for what, u := range map[string]*Trie[string]{"nil": none, "zero": {}, "New": New[string](), "dropped": New[string]().Put(1, "a").Drop(1)} {
		is(t, what, len(first(u.All(), -1)), 0)
	}
}
