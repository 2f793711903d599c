package trie

const (
	bits    = 4                   // of a part of a number
	wide    = 1 << bits           // the branches of a node
	parts   = 5                   // of a number
	highest = (parts - 1) * bits  // how far the highest part is shifted; the lowest one is at 0
	many    = 1 << (parts * bits) // the numbers for which there may be something
)

// branch: what follows a part of a number: a node, but a value behind the lowest part.
type branch[V any] struct {
	below *node[V]
	value *V
}

// node: a beginning of numbers for which there is something. It is never changed once it is made, as many tries may share it; a nil one has nothing.
type node[V any] struct {
	branches [wide]branch[V]
}

// within: may there be something for a number?
func within(number int) bool { return number >= 0 && number < many }

// part: the part of a number that is shifted so far.
func part(number, shift int) int { return (number >> shift) % wide }

// at: what follows a part.
func (n *node[V]) at(part int) branch[V] {
	if n == nil {
		return branch[V]{}
	}
	return n.branches[part]
}

// with: a copy that has b behind a part.
func (n *node[V]) with(part int, b branch[V]) *node[V] {
	var branches [wide]branch[V]
	if n != nil {
		branches = n.branches
	}
	branches[part] = b
	return &node[V]{branches}
}

// find: where the value for a number is, seen from the root.
func (n *node[V]) find(number int) *V {
	for shift := highest; shift > 0; shift -= bits {
		n = n.at(part(number, shift)).below
	}
	return n.at(part(number, 0)).value
}

// way: how many nodes there are for a number's beginnings, seen from the root.
func (n *node[V]) way(number int) int {
	count := 0
	for shift := highest; n != nil; shift -= bits {
		count++
		n = n.at(part(number, shift)).below
	}
	return count
}

// put: one that has v for a number.
func (n *node[V]) put(number, shift int, v *V) *node[V] {
	p := part(number, shift)
	if shift == 0 {
		return n.with(p, branch[V]{value: v})
	}
	return n.with(p, branch[V]{below: n.at(p).below.put(number, shift-bits, v)})
}

// drop: one that has nothing for a number; nil, if nothing is left in it.
func (n *node[V]) drop(number, shift int) *node[V] {
	p := part(number, shift)
	var left branch[V]
	if shift > 0 {
		left.below = n.at(p).below.drop(number, shift-bits)
	}
	made := n.with(p, left)
	if *made == (node[V]{}) {
		return nil
	}
	return made
}

// tell: each number that begins as told, and what there is for it; false, if yield wants no more.
func (n *node[V]) tell(begin, shift int, yield func(int, V) bool) bool {
	for p := range wide {
		b := n.at(p)
		number := begin + p<<shift
		if b.below != nil && !b.below.tell(number, shift-bits, yield) {
			return false
		}
		if b.value != nil && !yield(number, *b.value) {
			return false
		}
	}
	return true
}

// fresh: how many nodes from n on are not those of old at their place. Where both are one, all below them is.
func (n *node[V]) fresh(old *node[V]) int {
	if n == nil || n == old {
		return 0
	}
	count := 1
	for p := range wide {
		count += n.at(p).below.fresh(old.at(p).below)
	}
	return count
}
