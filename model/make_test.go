package model

import (
	"fmt"
	"math"
	"math/rand"
	"strings"
	"testing"

	"gouache/api"
	"gouache/dom"
	"gouache/sheet"
)

// is: one thing is the other, as it is written, both with its texts between quotes and with its numbers.
func is(t *testing.T, what string, got, want any) {
	t.Helper()
	if a, b := written(got), written(want); a != b {
		t.Errorf("%.300s: %.900s, want %.900s", what, a, b)
	}
}

func written(x any) string { return fmt.Sprintf("%v %q", x, x) }

// ends: the numbers at the ends of what an int holds, and those beside small ones.
func ends() []int {
	return []int{math.MinInt, math.MinInt + 1, -1 << 32, -2, -1, 0, 1<<20 - 1, 1 << 20, 1<<32 + 1, 1<<32 + 10, math.MaxInt - 1, math.MaxInt}
}

// kinds: all that are one.
func kinds() []int { return []int{1, 2, 3, 4, 5, 6, 7, 8, 9, 10, 11, 12} }

// noKinds: some that are none.
func noKinds() []int { return append(ends(), -12, -3, 13, 14, 100, 1<<8+1, 1<<16+1, 1<<32+12) }

// insert and the others: an operation of each kind.
func insert(node, index int, name string) api.Op {
	return api.Op{Kind: api.OpInsert, Node: node, Index: index, Name: name}
}

func remove(node int) api.Op { return api.Op{Kind: api.OpRemove, Node: node} }

func move(node, to, index int) api.Op {
	return api.Op{Kind: api.OpMove, Node: node, To: to, Index: index}
}

func attr(node int, name, value string) api.Op {
	return api.Op{Kind: api.OpAttr, Node: node, Name: name, Text: value}
}

func noAttr(node int, name string) api.Op {
	return api.Op{Kind: api.OpNoAttr, Node: node, Name: name}
}

func add(origin int, css string) api.Op {
	return api.Op{Kind: api.OpSheet, Origin: origin, Text: css}
}

func drop(id int) api.Op { return api.Op{Kind: api.OpNoSheet, Sheet: id} }

func rule(id, index int, css string) api.Op {
	return api.Op{Kind: api.OpRule, Sheet: id, Index: index, Text: css}
}

func noRule(id, index int) api.Op {
	return api.Op{Kind: api.OpNoRule, Sheet: id, Index: index}
}

func matches(node int, list string) api.Op {
	return api.Op{Kind: api.OpMatches, Node: node, Text: list}
}

func all(node int, list string) api.Op {
	return api.Op{Kind: api.OpAll, Node: node, Text: list}
}

func style(node int, property string) api.Op {
	return api.Op{Kind: api.OpStyle, Node: node, Name: property}
}

// begin: a State on whose making a test relies.
func begin(t *testing.T, tag string, ops ...api.Op) *State {
	t.Helper()
	s, err := New(tag)
	if err != api.OK {
		t.Fatalf("New of %q: %v", tag, err)
	}
	for _, o := range ops {
		var a api.Answer
		if s, a = s.Do(o); a.Err != api.OK {
			t.Fatalf("%+v: %v", o, a.Err)
		}
	}
	return s
}

// some: a State of elements and sheets of all sorts; the element 8 and the sheet 2 are gone.
//
//	1 a
//	  4 d .x
//	  2 b #i
//	    5 c
//	      7 b [k=v]
//	    6 c .x
//	  3 c
func some(t *testing.T) *State {
	t.Helper()
	return begin(t, "a",
		insert(1, 0, "b"), insert(1, 1, "c"), insert(1, 0, "d"), insert(2, 0, "c"), insert(2, 1, "c"), insert(5, 0, "b"), insert(3, 0, "e"), remove(8),
		attr(2, "id", "i"), attr(4, "class", "x"), attr(6, "class", "y x"), attr(7, "k", "v"),
		add(api.Agent, "*{display:block} b{color:#010101;z-index:1!important}"), add(api.User, "a{}"), drop(2),
		add(api.Author, "b{color:red;z-index:2} .x{font-size:50%;order:7} c{order:8}"))
}

// shown: all that a State has.
func shown(s *State) string {
	if s == nil {
		return "nil"
	}
	var out strings.Builder
	if s.Doc == nil {
		out.WriteString("no Doc")
	} else {
		fmt.Fprint(&out, s.Doc.Len(), " of ", s.Doc.Next(), ": ", branch(s.Doc, 1))
	}
	if s.Sheets == nil {
		return out.String() + " no Sheets"
	}
	_, next, _ := s.Sheets.Add(api.User, "")
	fmt.Fprint(&out, " sheets of ", next, ":")
	for _, id := range s.Sheets.Ids() {
		fmt.Fprint(&out, " ", id, " has ", s.Sheets.Count(id))
	}
	return out.String() + fmt.Sprintf(" %+v", s.Sheets.All())
}

// branch: an element with all below it.
func branch(d *dom.Doc, id int) string {
	n, ok := d.Node(id)
	if !ok {
		return "none"
	}
	out := fmt.Sprintf("%d %q of %d %q (", n.Id, n.Tag, n.Parent, n.Attrs)
	for _, k := range n.Kids {
		out += branch(d, k)
	}
	return out + ")"
}

// unmade: States that no call made, by what is wrong with them.
func unmade() map[string]*State {
	d, _ := dom.New("a")
	return map[string]*State{"nil": nil, "zero": {}, "no Doc": {Sheets: sheet.New()}, "no Sheets": {Doc: d}}
}

// samples: operations of each kind upon some, that are done, that are refused for each error that they name, and that read.
func samples() []api.Op {
	long := strings.Repeat("a", api.MaxText+1)
	return []api.Op{
		insert(1, 3, "e"), insert(5, 1, "b"), insert(2, 0, "x-1"), insert(8, 0, "b"), insert(2, 3, "b"), insert(2, -1, "b"), insert(2, 0, "B"), insert(2, 0, ""),
		remove(2), remove(7), remove(1), remove(8), remove(0),
		move(7, 1, 3), move(4, 5, 0), move(3, 1, 0), move(8, 1, 0), move(2, 8, 0), move(1, 2, 0), move(2, 2, 0), move(2, 7, 0), move(4, 2, 3), move(4, 2, -1),
		attr(1, "id", "i"), attr(6, "class", "z"), attr(7, "k", ""), attr(8, "k", ""), attr(7, "K", ""), attr(7, "k", long[:1001]),
		noAttr(7, "k"), noAttr(2, "id"), noAttr(8, "k"), noAttr(7, "id"), noAttr(7, ""),
		add(api.User, "c{color:#123456!important}"), add(api.Author, ""), add(api.Author, "1{} d{order:1}"), add(0, ""), add(4, ""), add(api.User, long),
		drop(1), drop(3), drop(2), drop(4), drop(0),
		rule(3, 0, "b{color:blue}"), rule(3, 3, "*{z-index:9}"), rule(1, 1, "a > b{order:3}"), rule(2, 0, "a{}"), rule(3, 4, "a{}"), rule(3, -1, "a{}"), rule(3, 0, ""), rule(3, 0, "a{} b{}"), rule(3, 0, "1{}"), rule(3, 0, long),
		noRule(3, 0), noRule(3, 2), noRule(1, 1), noRule(2, 0), noRule(3, 3), noRule(3, -1),
		matches(7, "a > b c b"), matches(7, "c, [k]"), matches(7, "a > b"), matches(1, ":root"), matches(8, "*"), matches(0, "*"), matches(8, "a,,b"), matches(7, "a,,b"), matches(7, ""), matches(7, long),
		all(1, "*"), all(1, ".x, b"), all(2, "a c"), all(7, "*"), all(1, "a"), all(8, "*"), all(0, ""), all(1, "a >"), all(1, ""), all(2, long),
		style(7, "color"), style(2, "z-index"), style(6, "font-size"), style(6, "order"), style(3, "color"), style(1, "display"), style(8, "color"), style(8, "none"), style(2, "none"), style(2, "margin"), style(2, ""), style(2, "Color"),
		{}, {Kind: 13, Node: 1}, {Kind: -1, Text: "a"},
	}
}

// maker makes operations by chance, the same ones each time. Few names and numbers, so that many of them meet.
type maker struct{ *rand.Rand }

func newMaker(seed int64) maker { return maker{rand.New(rand.NewSource(seed))} }

func (m maker) pick(l ...string) string { return l[m.Intn(len(l))] }

// number: one of so many from 1 on, at times beside them or far off.
func (m maker) number(most int) int {
	if m.Intn(30) == 0 {
		return ends()[m.Intn(len(ends()))]
	}
	return m.Intn(most+2) - 1 + m.Intn(2)
}

// op: one whose numbers are mostly those of a State; each field has something, whether its kind names it or not.
func (m maker) op(s *State) api.Op {
	o := api.Op{Node: m.number(s.Doc.Next()), To: m.number(s.Doc.Next()), Index: m.Intn(5) - m.Intn(2), Sheet: m.number(4), Origin: m.number(3)}
	o.Kind = []int{1, 1, 1, 1, 2, 3, 3, 4, 4, 4, 5, 6, 6, 7, 8, 8, 8, 9, 10, 10, 11, 11, 12, 12, 12, 12}[m.Intn(26)]
	if m.Intn(40) == 0 {
		o.Kind = noKinds()[m.Intn(len(noKinds()))]
	}
	o.Name, o.Text = m.name(o.Kind), m.text(o.Kind)
	return o
}

func (m maker) name(kind int) string {
	if kind == api.OpStyle {
		return m.pick("color", "color", "font-size", "font-size", "order", "display", "margin-top", "margin", "x", "")
	}
	return m.pick("a", "b", "c", "id", "class", "class", "k", "A", "")
}

func (m maker) text(kind int) string {
	switch kind {
	case api.OpAttr:
		return m.pick("", "x", "y", "x y", "i")
	case api.OpSheet:
		return strings.Join([]string{m.rule(), m.rule(), m.rule()}[m.Intn(4):], " ")
	case api.OpRule:
		return m.pick(m.rule(), m.rule(), m.rule(), m.rule()+m.rule(), "", "x")
	}
	return m.selector()
}

func (m maker) selector() string {
	one := func() string {
		return m.pick("*", "a", "b", "c", ".x", ".y", "#i", ":root", "[k]", ":first-child", ":not(.x)", ":is(a, .x)", "b:empty", "", "1")
	}
	out := one()
	for range m.Intn(3) {
		out += m.pick(" ", " > ", " + ", " ~ ", ", ") + one()
	}
	return out
}

func (m maker) rule() string {
	decl := func() string {
		return m.pick("color:red", "color:#123456!important", "color:inherit", "font-size:50%", "font-size:20px", "order:1", "order:2!important", "margin:1px 2px", "display:flex", "float:left", "x:y")
	}
	return m.selector() + "{" + decl() + ";" + decl() + "}"
}
