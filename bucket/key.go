package bucket

import (
	"slices"

	"gouache/api"
	"gouache/dom"
)

// key: what a bucket goes by. The zero one is of those selectors that ask for no name of an element.
type key struct {
	kind int
	name string
}

// keyOf: a selector's. The kind whose names the fewest elements share goes first, so that a rule is picked in vain less often.
func keyOf(c api.Complex) key {
	if len(c.Parts) == 0 {
		return key{}
	}
	last := c.Parts[len(c.Parts)-1]
	for _, kind := range [...]int{api.ID, api.Class, api.Tag} {
		at := slices.IndexFunc(last, func(s api.Simple) bool { return s.Kind == kind && !anyTag(s) })
		if at >= 0 {
			return key{kind, last[at].Name}
		}
	}
	return key{}
}

// anyTag: a Tag that asks for no name.
func anyTag(s api.Simple) bool { return s.Kind == api.Tag && s.Name == "*" }

// keysOf: those of all buckets whose rules may mean an element, each once; of none nothing.
func keysOf(d *dom.Doc, id int) []key {
	n, ok := d.Node(id)
	if !ok {
		return nil
	}
	out := []key{{}, {api.Tag, n.Tag}}
	// An id that is empty has a bucket of its own; one that is not there has none.
	if value, ok := d.Attr(id, "id"); ok {
		out = append(out, key{api.ID, value})
	}
	value, _ := d.Attr(id, "class")
	words := dom.Words(value)
	slices.Sort(words)
	// A word that is there hundreds of times would bring its bucket as often.
	for _, word := range slices.Compact(words) {
		out = append(out, key{api.Class, word})
	}
	return out
}

// put: a rule's place comes into a bucket. Places come rising, so if it is there it is the last one.
func (x *Index) put(place int, k key) {
	l := x.buckets[k]
	if len(l) == 0 || l[len(l)-1] != place {
		x.buckets[k] = append(l, place)
	}
}

// bucket: the places in one, whoever made the Index.
func (x *Index) bucket(k key) []int {
	if x == nil {
		return nil
	}
	return x.buckets[k]
}

// gathered: what is in some buckets, in new memory; rising, each once.
func (x *Index) gathered(keys ...key) []int {
	var out []int
	for _, k := range keys {
		out = append(out, x.bucket(k)...)
	}
	slices.Sort(out)
	return slices.Compact(out)
}
