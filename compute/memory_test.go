package compute

import (
	"fmt"
	"slices"
	"sync"
	"testing"

	"gouache/api"
	"gouache/cascade"
	"gouache/dom"
	"gouache/sheet"
)

// inputs: what is handed in to all calls.
type inputs struct {
	doc     *dom.Doc
	rules   []sheet.Placed
	parent  []string
	given   []string
	entries []cascade.Entry
}

// made: inputs by chance, in each of whose lists others stand in the room behind its end.
func made(t *testing.T, seed int64) inputs {
	t.Helper()
	m := newMaker(seed)
	in := inputs{doc: m.tree(t, 30, 8), rules: roomy(m.sheets(t, 8)), parent: marked("P"), given: quiet()}
	for range m.Intn(20) {
		in.entries = append(in.entries, entry(m.pick(names()...), m.pick("inherit", "unset", "a", "b")))
	}
	in.entries = append(in.entries, of("color", "room", api.Agent, true, api.Spec{A: 9}, 9))[:len(in.entries)]
	in.parent = append(in.parent, "room")[:len(in.parent)]
	in.given = append(with(in.given, "font-size", "50%", "font-weight", "bold", "position", "fixed", "border-top-color", "currentcolor"), "room")[:len(in.given)]
	return in
}

// roomy: rules with others in the room behind their lists.
func roomy(l []sheet.Placed) []sheet.Placed {
	room := sheet.Placed{Sheet: 77, Origin: api.Agent, Rule: api.Rule{Selector: []api.Complex{{Parts: [][]api.Simple{nil}}}, Decls: []api.Decl{{Name: "color", Value: cells("red"), Important: true}}}}
	out := make([]sheet.Placed, 0, len(l)+1)
	for _, p := range l {
		p.Rule.Selector = append(slices.Clip(p.Rule.Selector), room.Rule.Selector...)[:len(p.Rule.Selector)]
		p.Rule.Decls = append(slices.Clip(p.Rule.Decls), room.Rule.Decls...)[:len(p.Rule.Decls)]
		for i, d := range p.Rule.Decls {
			p.Rule.Decls[i].Value = append(slices.Clip(d.Value), cells("7px")...)[:len(d.Value)]
		}
		out = append(out, p)
	}
	return append(out, room)[:len(l)]
}

// shown: all of the inputs, with the room behind their lists.
func (in inputs) shown() string {
	out := fmt.Sprintf("%q %q %+v ", in.parent[:cap(in.parent)], in.given[:cap(in.given)], in.entries[:cap(in.entries)])
	for _, p := range in.rules[:cap(in.rules)] {
		out += fmt.Sprint(p.Sheet, p.Origin, p.Index)
		out += fmt.Sprintf("%+v %+v ", p.Rule.Selector[:cap(p.Rule.Selector)], p.Rule.Decls[:cap(p.Rule.Decls)])
		for _, d := range p.Rule.Decls {
			out += fmt.Sprintf("%+v ", d.Value[:cap(d.Value)])
		}
	}
	return out
}

// answers: what all calls tell, each list for itself.
func (in inputs) answers() [][]string {
	out := [][]string{Initial(), Given(in.parent, in.entries), Given(nil, in.entries), Fix(in.parent, in.given, false), Fix(nil, nil, true), Fix(in.given, in.given, false)}
	for id := range in.doc.Next() {
		out = append(out, Style(in.doc, id, in.rules))
	}
	return out
}

// wanted: the second telling of them.
func (in inputs) wanted() [][]string {
	out := [][]string{oInitial(), oGiven(in.parent, in.entries), oGiven(nil, in.entries), oFix(in.parent, in.given, false), oFix(nil, nil, true), oFix(in.given, in.given, false)}
	for id := range in.doc.Next() {
		out = append(out, oStyle(in.doc, id, in.rules))
	}
	return out
}

// all: the entries of each element.
func (in inputs) all() [][]cascade.Entry {
	var out [][]cascade.Entry
	for id := range in.doc.Next() {
		out = append(out, Entries(in.doc, id, in.rules))
	}
	return out
}

// spoil: a list is written over, with the room behind it.
func spoil[T any](l []T, with T) {
	l = l[:cap(l)]
	for i := range l {
		l[i] = with
	}
}

var junk = cascade.Entry{Name: "color", Value: "junk", Origin: api.Agent, Important: true, Order: 99}

// TestNothingIsChanged: neither what is handed in nor what lies behind its end; the tree is as it was.
func TestNothingIsChanged(t *testing.T) {
	for seed := range int64(60) {
		in := made(t, seed)
		before, tree := in.shown(), *in.doc
		in.answers()
		in.all()
		for _, p := range oProps() {
			Get(in.doc, 1, in.rules, p.name)
		}
		is(t, "what was handed in", in.shown(), before)
		is(t, "the tree", *in.doc == tree, true)
	}
}

// TestRoomIsNotRead: what lies behind a list's end counts for nothing.
func TestRoomIsNotRead(t *testing.T) {
	for seed := range int64(60) {
		in := made(t, seed)
		is(t, "with room", in.answers(), in.wanted())
		for id := range in.doc.Next() {
			is(t, "with room", Entries(in.doc, id, in.rules), oEntries(in.doc, id, in.rules))
		}
	}
}

// TestAnswersAreNew: who writes over an answer, or behind its end, changes neither another one nor what was handed in.
func TestAnswersAreNew(t *testing.T) {
	for seed := range int64(30) {
		in := made(t, seed)
		before, want := in.shown(), in.wanted()
		for i := range want {
			older := in.answers()
			spoil(older[i], "junk")
			for j := range want {
				if j != i {
					is(t, "another answer", older[j], want[j])
				}
			}
			_ = append(in.answers()[i], "junk")
			is(t, "later answers", in.answers(), want)
		}
		told := fmt.Sprint(in.all())
		for i, l := range in.all() {
			older := in.all()
			spoil(l, junk)
			spoil(older[i], junk)
			is(t, "later Entries", fmt.Sprint(in.all()), told)
		}
		is(t, "what was handed in", in.shown(), before)
	}
}

// TestRoomBehindAnswers: nothing lies there that was handed in.
func TestRoomBehindAnswers(t *testing.T) {
	in := made(t, 3)
	for _, l := range in.answers() {
		for _, s := range l[len(l):cap(l)] {
			is(t, "spare room", s, "")
		}
	}
	for _, l := range in.all() {
		for _, e := range l[len(l):cap(l)] {
			is(t, "spare room", e, cascade.Entry{})
		}
	}
}

// TestAnswersStay: what was told stays, when what was handed in is written over.
func TestAnswersStay(t *testing.T) {
	for seed := range int64(30) {
		in := made(t, seed)
		got, want := in.answers(), in.wanted()
		all := in.all()
		entries := fmt.Sprintf("%+v", all)
		spoil(in.parent, "junk")
		spoil(in.given, "junk")
		spoil(in.entries, junk)
		for _, p := range in.rules {
			for _, d := range p.Rule.Decls {
				spoil(d.Value, api.Value{Token: api.Token{Kind: api.Ident, Text: "junk"}})
			}
			spoil(p.Rule.Decls, api.Decl{Name: "junk"})
			spoil(p.Rule.Selector, api.Complex{})
		}
		spoil(in.rules, sheet.Placed{Sheet: 9})
		is(t, "told", got, want)
		is(t, "Entries", fmt.Sprintf("%+v", all), entries)
	}
}

// TestNothingIsKept: rules are asked, changed, and asked again.
func TestNothingIsKept(t *testing.T) {
	p := begin(t, "a").under(1, "b")
	l := author(t, "a{color:red} b{width:1px}")
	gets(t, p, 2, l, "color", "#ff0000")
	l[0].Rule.Decls[0].Value[0].Token.Text = "blue"
	gets(t, p, 2, l, "color", "#0000ff")
	l[0].Rule.Decls[0].Name = "background-color"
	gets(t, p, 2, l, "color", "#000000")
	gets(t, p, 1, l, "background-color", "#0000ff")
	l[0].Rule.Selector[0].Parts[0][0].Name = "b"
	gets(t, p, 2, l, "background-color", "#0000ff")
	l[0], l[1] = l[1], sheet.Placed{}
	gets(t, p, 2, l, "background-color", "transparent")
	gets(t, p, 2, l, "width", "1px")
}

// TestAliases: the same list as parent and as given.
func TestAliases(t *testing.T) {
	l := with(quiet(), "font-size", "50%", "font-weight", "bold")
	is(t, "Fix", Fix(l, l, false), with(quiet(), "font-size", "8px", "font-weight", "700"))
	l = with(quiet(), "font-size", "10px", "color", "red")
	is(t, "Fix", Fix(l, Given(l, nil), false), oFix(l, oGiven(l, nil), false))
}

// TestTheSameEachTime: what is told hangs on what is handed in alone.
func TestTheSameEachTime(t *testing.T) {
	in := made(t, 5)
	want, entries := in.wanted(), in.all()
	for range 30 {
		is(t, "again", in.answers(), want)
		is(t, "again", in.all(), entries)
	}
}

// TestManyAtOnce: calls from many sides at once tell the same of the same things, though each writes over what it was told.
func TestManyAtOnce(t *testing.T) {
	in := made(t, 7)
	want, entries := in.wanted(), in.all()
	var all sync.WaitGroup
	for range 8 {
		all.Go(func() {
			for range 10 {
				got, said := in.answers(), in.all()
				is(t, "answers", got, want)
				is(t, "Entries", said, entries)
				for i := range got {
					spoil(got[i], "junk")
				}
				for i := range said {
					spoil(said[i], junk)
				}
			}
		})
	}
	all.Wait()
}
