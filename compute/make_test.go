package compute

import (
	"fmt"
	"math/rand"
	"slices"
	"strings"
	"testing"

	"gouache/api"
	"gouache/cascade"
	"gouache/dom"
	"gouache/parse"
	"gouache/selector"
	"gouache/sheet"
	"gouache/text"
	"gouache/token"
)

// is: one thing is the other, as it is written, both with its texts between quotes and with its numbers.
func is(t *testing.T, what string, got, want any) {
	t.Helper()
	if a, b := written(got), written(want); a != b {
		t.Errorf("%.300s: %.900s, want %.900s", what, a, b)
	}
}

func written(x any) string { return fmt.Sprintf("%v %q", x, x) }

// told: a text and an error, beside each other.
func told(s string, err api.Errno) []any { return []any{s, err} }

// nothing: a style that is none.
func nothing() []string { return nil }

// with: a list, changed at the places of these names: a name, its value, and so on.
func with(l []string, pairs ...string) []string {
	out := slices.Clone(l)
	for i := 0; i < len(pairs); i += 2 {
		out[oPlace(pairs[i])] = pairs[i+1]
	}
	return out
}

// marked: a style in which each value is one that no other has, and that no step of Fix looks at.
func marked(mark string) []string {
	var out []string
	for _, p := range oProps() {
		out = append(out, mark+" "+p.name)
	}
	return out
}

// quiet: what Fix makes of the Initials: a style that each step of Fix leaves as it is.
func quiet() []string {
	l := with(oInitial(), "font-weight", "400", "background-color", "#ffffff")
	for _, side := range sides() {
		l = with(l, "border-"+side+"-width", "0px", "border-"+side+"-color", "#000000")
	}
	return l
}

func sides() []string { return []string{"top", "right", "bottom", "left"} }

// css: a sheet, of an origin.
type css struct {
	origin int
	text   string
}

// rules: all rules of some sheets.
func rules(t *testing.T, l ...css) []sheet.Placed {
	t.Helper()
	s := sheet.New()
	for _, c := range l {
		var err api.Errno
		if s, _, err = s.Add(c.origin, c.text); err != api.OK {
			t.Fatalf("%.200q: %v", c.text, err)
		}
	}
	return s.All()
}

// author: all rules of one sheet of the Author.
func author(t *testing.T, text string) []sheet.Placed {
	t.Helper()
	return rules(t, css{api.Author, text})
}

// cells: the values of a text.
func cells(s string) []api.Value { return parse.Values(token.Tokens(text.Runes([]byte(s)))) }

// sel: the list of a text that must be one.
func sel(t *testing.T, s string) []api.Complex {
	t.Helper()
	l, err := selector.Text(s)
	if err != api.OK {
		t.Fatalf("%q: %v", s, err)
	}
	return l
}

// entry: one of a rule of the Author, that is as good as others of its place.
func entry(name, value string) cascade.Entry {
	return cascade.Entry{Name: name, Value: value, Origin: api.Author}
}

// page: a Doc on whose making a test relies: a call that is refused ends the test.
type page struct {
	*testing.T
	doc *dom.Doc
}

func begin(t *testing.T, tag string) page {
	t.Helper()
	d, err := dom.New(tag)
	return page{t, nil}.next(d, err)
}

func (p page) next(d *dom.Doc, err api.Errno) page {
	p.Helper()
	if err != api.OK {
		p.Fatal(err)
	}
	return page{p.T, d}
}

// under: an element behind the Kids of its Parent.
func (p page) under(parent int, tag string) page {
	p.Helper()
	n, _ := p.doc.Node(parent)
	d, _, err := p.doc.Insert(parent, len(n.Kids), tag)
	return p.next(d, err)
}

func (p page) set(id int, name, value string) page {
	p.Helper()
	return p.next(p.doc.SetAttr(id, name, value))
}

func (p page) move(id, parent, index int) page {
	p.Helper()
	return p.next(p.doc.Move(id, parent, index))
}

func (p page) remove(id int) page {
	p.Helper()
	return p.next(p.doc.Remove(id))
}

// some: elements of all sorts; numbers are not in walk's order.
//
//	1 a
//	  6 e #i
//	  2 b .x
//	    4 c .x.y [k=v]
//	    5 b
//	      7 d #j.y
//	  3 b .y
func some(t *testing.T) *dom.Doc {
	t.Helper()
	p := begin(t, "a").under(1, "b").under(1, "b").under(2, "c").under(2, "b").under(1, "e").under(5, "d")
	p = p.move(6, 1, 0).set(2, "class", "x").set(4, "class", "x\ty").set(4, "k", "v").set(7, "class", "y")
	return p.set(3, "class", "y").set(6, "id", "i").set(7, "id", "j").doc
}

// chain: elements 1 to so many, each the only Kid of the one ahead; of tags a and b by turns.
func chain(t *testing.T, many int) *dom.Doc {
	t.Helper()
	p := begin(t, "a")
	for id := 2; id <= many; id++ {
		p = p.under(id-1, []string{"b", "a"}[id%2])
	}
	return p.doc
}

// lists: all lists of up to so many of some things.
func lists[T any](of []T, most int) [][]T {
	out, last := [][]T{nil}, [][]T{nil}
	for range most {
		var next [][]T
		for _, l := range last {
			for _, x := range of {
				next = append(next, append(append([]T{}, l...), x))
			}
		}
		out, last = append(out, next...), next
	}
	return out
}

// maker makes trees, sheets and values by chance, the same ones each time. Few names, so that many of them meet.
type maker struct{ *rand.Rand }

func newMaker(seed int64) maker { return maker{rand.New(rand.NewSource(seed))} }

func (m maker) pick(l ...string) string { return l[m.Intn(len(l))] }

// step: a tree that some call makes; the same one, if it is refused.
func (m maker) step(d *dom.Doc, most int) *dom.Doc {
	id, to := 1+m.Intn(d.Next()), 1+m.Intn(d.Next())
	n, _ := d.Node(to)
	index := m.Intn(len(n.Kids) + 1)
	switch k := m.Intn(14); {
	case k < 6 && d.Len() < most:
		d, _, _ = d.Insert(to, index, m.pick("a", "b", "c"))
	case k < 8:
		d, _ = d.Move(id, to, index)
	case k < 12:
		d, _ = d.SetAttr(id, m.pick("id", "class", "class", "k"), m.pick("", "x", "y", "x y", "i"))
	case k == 12 && m.Intn(3) == 0:
		d, _ = d.Remove(id)
	default:
		d, _ = d.DropAttr(id, m.pick("id", "class", "k"))
	}
	return d
}

// tree: one behind many steps.
func (m maker) tree(t *testing.T, steps, most int) *dom.Doc {
	t.Helper()
	d := begin(t, m.pick("a", "b")).doc
	for range steps {
		d = m.step(d, most)
	}
	return d
}

// sheets: the rules of sheets of each origin.
func (m maker) sheets(t *testing.T, most int) []sheet.Placed {
	t.Helper()
	var l []css
	for range 1 + m.Intn(4) {
		var s strings.Builder
		for range m.Intn(most + 1) {
			s.WriteString(m.selector() + "{" + m.decls(5) + "}")
		}
		l = append(l, css{1 + m.Intn(3), s.String()})
	}
	return rules(t, l...)
}

func (m maker) selector() string {
	one := func() string {
		return m.pick("*", "a", "b", "c", ".x", ".y", "#i", "a.x", ":root", "[k]", ":first-child", ":not(.x)", ":is(a, .x, #i)", "b:empty", ":where(#i, b)")
	}
	out := one()
	for range m.Intn(3) {
		out += m.pick(" ", " > ", " + ", " ~ ", ", ", ", ") + one()
	}
	return out
}

func (m maker) decls(most int) string {
	var out strings.Builder
	for range m.Intn(most + 1) {
		name := m.pick(names()...)
		out.WriteString(name + ":" + m.value(name) + m.pick("", "", "", "!important") + ";")
	}
	return out.String()
}

// names: those of which much hangs often; all longhands; the shorthands, and some that are none.
func names() []string {
	l := []string{"font-size", "font-size", "font-size", "color", "color", "display", "position", "float", "font-weight", "margin", "padding", "border-width", "border-style", "border-style", "border-color", "overflow", "border", "x", "Color"}
	for _, p := range oProps() {
		l = append(l, p.name)
	}
	return l
}

// value: one for that name; at times one of another's, or none.
func (m maker) value(name string) string {
	if m.Intn(4) == 0 {
		return m.pick("inherit", "initial", "unset", "INHERIT")
	}
	if m.Intn(12) == 0 {
		return m.pick("x", "", "1px 2px", "-1", "()", "\"a\"", "inherit inherit")
	}
	l := texts(name)
	switch name {
	case "margin", "padding", "border-width", "border-style", "border-color":
		l = texts(map[string]string{"margin": "margin-top", "padding": "padding-top", "border-width": "border-top-width", "border-style": "border-top-style", "border-color": "border-top-color"}[name])
		return strings.Join([]string{m.pick(l...), m.pick(l...), m.pick(l...), m.pick(l...)}[m.Intn(4):], " ")
	case "overflow":
		return m.pick("clip", "auto scroll", "hidden hidden")
	}
	if len(l) == 0 {
		return "red"
	}
	return m.pick(l...)
}

// texts: what a longhand may be, of each part of its Form at least one; of another name nothing.
func texts(name string) []string {
	var out []string
	for _, form := range oForms(name) {
		switch form {
		case "<len>":
			out = append(out, "-7px", "0", "3PX")
		case "<len+>":
			out = append(out, "0", "10px", "1000001px")
		case "<pct>":
			out = append(out, "-5%", "50%")
		case "<pct+>":
			out = append(out, "33%", "150%", "0%")
		case "<int>":
			out = append(out, "-3", "4")
		case "<int+>":
			out = append(out, "0", "350")
		case "<color>":
			out = append(out, "red", "#ABC", "#123456")
		default:
			out = append(out, form)
		}
	}
	return out
}
