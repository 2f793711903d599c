package match

import (
	"fmt"
	"math/big"
	"regexp"
	"slices"
	"testing"

	"gouache/api"
	"gouache/dom"
)

// The oracle: a second telling of the chapter. A tree is its root with what is in it, without numbers of parents; each selector tells all whom it means, and a complex one is gone over from the left to the right.
type oNode struct {
	id    int
	tag   string
	attrs map[string]string
	kids  []*oNode
}

func (n *oNode) copied() *oNode {
	m := &oNode{id: n.id, tag: n.tag, attrs: map[string]string{}}
	for k, v := range n.attrs {
		m.attrs[k] = v
	}
	for _, k := range n.kids {
		m.kids = append(m.kids, k.copied())
	}
	return m
}

// all: an element, and all that is in it.
func (n *oNode) all() []*oNode {
	l := []*oNode{n}
	for _, k := range n.kids {
		l = append(l, k.all()...)
	}
	return l
}

// find: an element, and the one in which it is; nil, where there is none.
func (n *oNode) find(id int) (one, parent *oNode) {
	if n.id == id {
		return n, nil
	}
	for _, k := range n.kids {
		if one, parent = k.find(id); one != nil {
			if parent == nil {
				parent = n
			}
			return one, parent
		}
	}
	return nil, nil
}

// stands: does an element stand so ahead of another one, by a comb?
func (n *oNode) stands(a *oNode, comb int, b *oNode) bool {
	switch comb {
	case api.Descendant:
		return a != b && slices.Contains(a.all(), b)
	case api.Child:
		return slices.Contains(a.kids, b)
	}
	_, p := n.find(b.id)
	if p == nil || !slices.Contains(p.kids, a) {
		return false
	}
	steps := slices.Index(p.kids, b) - slices.Index(p.kids, a)
	return steps == 1 || comb == api.Later && steps > 1
}

// place: from the beginning, or from the end.
func (n *oNode) place(e *oNode, fromEnd bool) int {
	_, p := n.find(e.id)
	if p == nil {
		return 1
	}
	l := slices.Clone(p.kids)
	if fromEnd {
		slices.Reverse(l)
	}
	return slices.Index(l, e) + 1
}

// oFits: is n one of them? As whole numbers without bounds.
func oFits(a, b, n int) bool {
	left := new(big.Int).Sub(big.NewInt(int64(n)), big.NewInt(int64(b)))
	if a == 0 {
		return left.Sign() == 0
	}
	k, rest := new(big.Int).QuoRem(left, big.NewInt(int64(a)), new(big.Int))
	return rest.Sign() == 0 && k.Sign() >= 0
}

// oAsks: what an operator asks of a text, by an expression.
func oAsks(op int, value, s string) bool {
	v := regexp.QuoteMeta(value)
	says := func(expr string) bool { return regexp.MustCompile(expr).MatchString(s) }
	word := regexp.MustCompile(`\A[^ \t\n]+\z`).MatchString(value)
	switch op {
	case api.Has:
		return true
	case api.Equal:
		return says(`\A` + v + `\z`)
	case api.Word:
		return word && says(`(\A|[ \t\n])`+v+`([ \t\n]|\z)`)
	case api.Dash:
		return says(`\A` + v + `(-|\z)`)
	case api.Begins:
		return value != "" && says(`\A`+v)
	case api.Ends:
		return value != "" && says(v+`\z`)
	case api.Contains:
		return value != "" && says(v)
	}
	return false
}

// simple: whom it means.
func (n *oNode) simple(s api.Simple) []*oNode {
	inner := n.list(s.List)
	var out []*oNode
	for _, e := range n.all() {
		if n.one(e, s, inner) {
			out = append(out, e)
		}
	}
	return out
}

// one: does it mean an element? inner: whom its List means.
func (n *oNode) one(e *oNode, s api.Simple, inner []*oNode) bool {
	attr := func(name string, op int, value string) bool {
		v, ok := e.attrs[name]
		return ok && oAsks(op, value, v)
	}
	switch s.Kind {
	case api.Tag:
		return s.Name == "*" || e.tag == s.Name
	case api.ID:
		return attr("id", api.Equal, s.Name)
	case api.Class:
		return attr("class", api.Word, s.Name)
	case api.AttrSel:
		return attr(s.Name, s.Op, s.Value)
	case api.Nth, api.NthLast:
		return oFits(s.A, s.B, n.place(e, s.Kind == api.NthLast))
	case api.Root:
		return e == n
	case api.Empty:
		return len(e.kids) == 0
	case api.Not:
		return !slices.Contains(inner, e)
	case api.Is, api.Where:
		return slices.Contains(inner, e)
	}
	return false
}

// compound: whom all of it mean.
func (n *oNode) compound(l []api.Simple) []*oNode {
	out := n.all()
	for _, s := range l {
		by := n.simple(s)
		out = slices.DeleteFunc(out, func(e *oNode) bool { return !slices.Contains(by, e) })
	}
	return out
}

// complex: whom it means: the last ones of all rows of elements that stand so.
func (n *oNode) complex(c api.Complex) []*oNode {
	if len(c.Parts) == 0 || len(c.Parts) != len(c.Combs)+1 {
		return nil
	}
	for _, comb := range c.Combs {
		if comb < 1 || comb > 4 {
			return nil
		}
	}
	now := n.compound(c.Parts[0])
	for i, comb := range c.Combs {
		var next []*oNode
		for _, b := range n.compound(c.Parts[i+1]) {
			if slices.ContainsFunc(now, func(a *oNode) bool { return n.stands(a, comb, b) }) {
				next = append(next, b)
			}
		}
		now = next
	}
	return now
}

// list: whom one of it means.
func (n *oNode) list(l []api.Complex) []*oNode {
	var out []*oNode
	for _, c := range l {
		out = append(out, n.complex(c)...)
	}
	return out
}

// oSpec: a specificity as one number, so far as its parts are small.
func oSpec(c api.Complex) int {
	sum := 0
	for _, part := range c.Parts {
		for _, s := range part {
			switch s.Kind {
			case api.ID:
				sum += 1000000
			case api.Class, api.AttrSel, api.Nth, api.NthLast, api.Root, api.Empty:
				sum += 1000
			case api.Tag:
				if s.Name != "*" {
					sum++
				}
			case api.Not, api.Is:
				most := 0
				for _, inner := range s.List {
					most = max(most, oSpec(inner))
				}
				sum += most
			}
		}
	}
	return sum
}

// best: by numbers, the greatest specificity of those that mean an element.
func (n *oNode) best(l []api.Complex) map[int]int {
	most := map[int]int{}
	for _, c := range l {
		for _, e := range n.complex(c) {
			most[e.id] = max(most[e.id], oSpec(c))
		}
	}
	return most
}

func has(l []*oNode, id int) bool {
	return slices.ContainsFunc(l, func(e *oNode) bool { return e.id == id })
}

// bestOf: what Best tells, as the oracle does.
func bestOf(t *testing.T, d *dom.Doc, id int, l []api.Complex) int {
	t.Helper()
	s, ok := Best(d, id, l)
	if !ok {
		if s != (api.Spec{}) {
			t.Fatalf("Best %v beside a false", s)
		}
		return -1
	}
	return s.A*1000000 + s.B*1000 + s.C
}

// agree: all calls tell what the oracle says of a list and what is in it, of all numbers up to beyond the next one.
func agree(t *testing.T, what string, d *dom.Doc, n *oNode, l []api.Complex) {
	t.Helper()
	check := func(call string, got func(id int) bool, want []*oNode) {
		t.Helper()
		for id := -1; id <= d.Next()+1; id++ {
			if got(id) != has(want, id) {
				t.Fatalf("%s: %s of %d: %v, want %v\n%s", what, call, id, got(id), has(want, id), fmt.Sprintf("%+v", l))
			}
		}
	}
	check("List", func(id int) bool { return List(d, id, l) }, n.list(l))
	for _, c := range l {
		check("Complex", func(id int) bool { return Complex(d, id, c) }, n.complex(c))
		for _, part := range c.Parts {
			check("Compound", func(id int) bool { return Compound(d, id, part) }, n.compound(part))
			for _, s := range part {
				check("One", func(id int) bool { return One(d, id, s) }, n.simple(s))
			}
		}
	}
	best := n.best(l)
	for id := -1; id <= d.Next()+1; id++ {
		want, ok := best[id]
		if !ok {
			want = -1
		}
		if got := bestOf(t, d, id, l); got != want {
			t.Fatalf("%s: Best of %d: %d, want %d\n%+v", what, id, got, want, l)
		}
	}
	follows(t, what, d, l)
}

// follows: P9.3, by match's own answers.
func follows(t *testing.T, what string, d *dom.Doc, l []api.Complex) {
	t.Helper()
	for id := range d.Next() {
		_, there := d.Node(id)
		any := slices.ContainsFunc(l, func(c api.Complex) bool { return Complex(d, id, c) })
		yes := List(d, id, l)
		if yes != any {
			t.Fatalf("%s: List of %d %v, one of it %v\n%+v", what, id, yes, any, l)
		}
		not := One(d, id, api.Simple{Kind: api.Not, List: l})
		is := One(d, id, api.Simple{Kind: api.Is, List: l})
		where := One(d, id, api.Simple{Kind: api.Where, List: l})
		if is != yes || where != yes || not != (there && !yes) {
			t.Fatalf("%s: of %d, that is there: %v: List %v, is %v, where %v, not %v\n%+v", what, id, there, yes, is, where, not, l)
		}
		for _, c := range l {
			for _, part := range c.Parts {
				for i := range part {
					less, more, s := Compound(d, id, part[:i]), Compound(d, id, part[:i+1]), One(d, id, part[i])
					if more != (less && s) {
						t.Fatalf("%s: Compound of %d: %v, one more: %v, that one: %v\n%+v", what, id, less, more, s, part[:i+1])
					}
				}
			}
		}
	}
}
