package bloom

import (
	"fmt"
	"hash/fnv"
	"maps"
	"math/big"
	"regexp"
	"slices"
	"testing"

	"gouache/api"
	"gouache/dom"
)

// The oracle: a second telling of the chapter. A tree is elements with their tags, attributes and the numbers of those in which they stand; a filter is one great number; keys are gathered in maps.
type oNode struct {
	tag    string
	parent int
	attrs  map[string]string
}

type oTree map[int]oNode

// above: all in which an element stands, from the nearest one on.
func (o oTree) above(id int) []int {
	var l []int
	for up := o[id].parent; up != 0; up = o[up].parent {
		l = append(l, up)
	}
	return l
}

func oKey(kind int, name string) uint32 {
	h := fnv.New32a()
	h.Write([]byte{byte(((kind % 256) + 256) % 256)})
	h.Write([]byte(name))
	return h.Sum32()
}

// oAdd: a filter with a key's two bits, which are its two lowest digits of those of 256.
func oAdd(f *big.Int, key uint32) *big.Int {
	out := new(big.Int).Set(f)
	for _, bit := range []int{int(key & 255), int(key >> 8 & 255)} {
		out.SetBit(out, bit, 1)
	}
	return out
}

func oHas(f *big.Int, key uint32) bool { return oAdd(f, key).Cmp(f) == 0 }

// oFilter: a Filter as one number, its last item on top.
func oFilter(f Filter) *big.Int {
	out := new(big.Int)
	for i := 3; i >= 0; i-- {
		out.Lsh(out, 64).Or(out, new(big.Int).SetUint64(f[i]))
	}
	return out
}

func rising(m map[uint32]int) []uint32 { return slices.Sorted(maps.Keys(m)) }

func (o oTree) keys(id int) []uint32 {
	n, ok := o[id]
	if !ok {
		return nil
	}
	m := map[uint32]int{oKey(1, n.tag): 1}
	for _, word := range regexp.MustCompile(`[^ \t\n]+`).FindAllString(n.attrs["class"], -1) {
		m[oKey(2, word)]++
	}
	if value, ok := n.attrs["id"]; ok {
		m[oKey(3, value)]++
	}
	return rising(m)
}

func (o oTree) of(id int) *big.Int {
	f := new(big.Int)
	for _, up := range o.above(id) {
		for _, key := range o.keys(up) {
			f = oAdd(f, key)
		}
	}
	return f
}

func oNeeds(c api.Complex) []uint32 {
	m := map[uint32]int{}
	if len(c.Parts) != len(c.Combs)+1 {
		return nil
	}
	for i, part := range c.Parts[:len(c.Combs)] {
		for _, s := range part {
			counts := map[int]bool{api.Tag: s.Name != "*", api.Class: true, api.ID: true}[s.Kind]
			if counts && slices.Contains([]int{api.Descendant, api.Child}, c.Combs[i]) {
				m[oKey(s.Kind, s.Name)]++
			}
		}
	}
	return rising(m)
}

func oSkip(f *big.Int, c api.Complex) bool {
	return slices.ContainsFunc(oNeeds(c), func(key uint32) bool { return !oHas(f, key) })
}

// is: one thing is the other, as it is written.
func is(t *testing.T, what string, got, want any) {
	t.Helper()
	if a, b := fmt.Sprint(got), fmt.Sprint(want); a != b {
		t.Errorf("%s: %s, want %s", what, a, b)
	}
}

// agree: a tree's keys and filters are what the oracle says, of each number, and of some that none has.
func agree(t *testing.T, what string, d *dom.Doc, o oTree) {
	t.Helper()
	for id := -1; id <= d.Next()+1; id++ {
		if got, want := Keys(d, id), o.keys(id); !slices.Equal(got, want) {
			t.Fatalf("%s: Keys of %d: %v, want %v", what, id, got, want)
		}
		if got, want := oFilter(Of(d, id)), o.of(id); got.Cmp(want) != 0 {
			t.Fatalf("%s: Of %d: %x, want %x", what, id, got, want)
		}
	}
}

// needs: a selector's keys, and whether a filter lets it be skipped.
func needs(t *testing.T, what string, f Filter, c api.Complex) {
	t.Helper()
	if got, want := Needs(c), oNeeds(c); !slices.Equal(got, want) {
		t.Fatalf("%s: Needs of %v: %v, want %v", what, c, got, want)
	}
	if got, want := Skip(f, c), oSkip(oFilter(f), c); got != want {
		t.Fatalf("%s: Skip of %x and %v: %v", what, f, c, got)
	}
}
