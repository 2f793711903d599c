package bloom

import (
	"slices"

	"gouache/api"
	"gouache/dom"
)

const (
	first = 2166136261
	times = 16777619
	bits  = 256
	item  = 64 // bits of one item
)

// mixed: a number with a byte more, modulo 2^32.
func mixed(key uint32, b byte) uint32 {
	return (key ^ uint32(b)) * times
}

// lit: a filter with a bit.
func lit(f Filter, bit uint32) Filter {
	bit %= bits
	f[bit/item] |= 1 << (bit % item)
	return f
}

// telling: one that is told keys.
type telling func(key uint32)

// gathered: all keys that are told; rising, each once.
func gathered(all func(tell telling)) []uint32 {
	var keys []uint32
	all(func(key uint32) { keys = append(keys, key) })
	slices.Sort(keys)
	return slices.Compact(keys)
}

// wears: tells the keys of an element's names.
func wears(d *dom.Doc, id int, tell telling) {
	n, ok := d.Node(id)
	if !ok {
		return
	}
	tell(Key(api.Tag, n.Tag))
	if value, ok := d.Attr(id, "id"); ok {
		tell(Key(api.ID, value))
	}
	value, _ := d.Attr(id, "class")
	for _, word := range dom.Words(value) {
		tell(Key(api.Class, word))
	}
}

// asks: tells the keys of the names that a selector asks of those above. A Part that stands ahead of Next or Later is beside somebody, and may be nowhere above.
func asks(c api.Complex, tell telling) {
	if len(c.Combs) != len(c.Parts)-1 {
		return
	}
	for i, comb := range c.Combs {
		if comb != api.Descendant && comb != api.Child {
			continue
		}
		for _, s := range c.Parts[i] {
			if keyed(s) {
				tell(Key(s.Kind, s.Name))
			}
		}
	}
}

// keyed: is it a name that an element's keys have?
func keyed(s api.Simple) bool {
	return s.Kind == api.ID || s.Kind == api.Class || s.Kind == api.Tag && s.Name != "*"
}
