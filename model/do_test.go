package model

import (
	"fmt"
	"strings"
	"testing"

	"gouache/api"
)

// told: an operation and what it is to answer.
type told struct {
	o    api.Op
	want api.Answer
}

// ask: each operation under the very same State.
func ask(t *testing.T, s *State, l ...told) {
	t.Helper()
	for _, x := range l {
		next, a := s.Do(x.o)
		is(t, fmt.Sprintf("%+v", x.o), a, x.want)
		if x.want.Err != api.OK || Reads(x.o.Kind) {
			is(t, fmt.Sprintf("the State of %+v", x.o), next == s, true)
		}
	}
}

// refused: an operation that is, with that error.
func refused(o api.Op, err api.Errno) told { return told{o, api.Answer{Err: err}} }

// leads: an operation leads from some to that tree; the sheets are the same ones.
func leads(t *testing.T, o api.Op, id int, tree string) {
	t.Helper()
	s := some(t)
	next, a := s.Do(o)
	is(t, fmt.Sprintf("%+v", o), a, api.Answer{Id: id})
	is(t, fmt.Sprintf("the tree behind %+v", o), plain(next, 1), tree)
	is(t, fmt.Sprintf("the sheets behind %+v", o), next.Sheets == s.Sheets, true)
}

// plain: an element and all below it, by tags, numbers and attributes.
func plain(s *State, id int) string {
	n, _ := s.Doc.Node(id)
	out := fmt.Sprint(n.Tag, n.Id)
	for _, a := range n.Attrs {
		out += "[" + a.Name + "=" + a.Value + "]"
	}
	if len(n.Kids) > 0 {
		var kids []string
		for _, k := range n.Kids {
			kids = append(kids, plain(s, k))
		}
		out += "(" + strings.Join(kids, " ") + ")"
	}
	return out
}

// TestDoTree: each kind that changes the tree, with numbers that part from each other, so that none stands for another one.
func TestDoTree(t *testing.T) {
	is(t, "some", plain(some(t), 1), "a1(d4[class=x] b2[id=i](c5(b7[k=v]) c6[class=y x]) c3)")
	leads(t, insert(2, 1, "e"), 9, "a1(d4[class=x] b2[id=i](c5(b7[k=v]) e9 c6[class=y x]) c3)")
	leads(t, insert(1, 0, "e"), 9, "a1(e9 d4[class=x] b2[id=i](c5(b7[k=v]) c6[class=y x]) c3)")
	leads(t, insert(7, 0, "e-1_"), 9, "a1(d4[class=x] b2[id=i](c5(b7[k=v](e-1_9)) c6[class=y x]) c3)")
	leads(t, remove(5), 0, "a1(d4[class=x] b2[id=i](c6[class=y x]) c3)")
	leads(t, remove(4), 0, "a1(b2[id=i](c5(b7[k=v]) c6[class=y x]) c3)")
	leads(t, move(5, 1, 2), 0, "a1(d4[class=x] b2[id=i](c6[class=y x]) c5(b7[k=v]) c3)")
	leads(t, move(4, 1, 2), 0, "a1(b2[id=i](c5(b7[k=v]) c6[class=y x]) c3 d4[class=x])")
	leads(t, move(2, 3, 0), 0, "a1(d4[class=x] c3(b2[id=i](c5(b7[k=v]) c6[class=y x])))")
	leads(t, attr(5, "x", "y"), 0, "a1(d4[class=x] b2[id=i](c5[x=y](b7[k=v]) c6[class=y x]) c3)")
	leads(t, attr(7, "k", ""), 0, "a1(d4[class=x] b2[id=i](c5(b7[k=]) c6[class=y x]) c3)")
	leads(t, attr(7, "a", strings.Repeat("é", 500)), 0, "a1(d4[class=x] b2[id=i](c5(b7[a="+strings.Repeat("é", 500)+"][k=v]) c6[class=y x]) c3)")
	leads(t, noAttr(6, "class"), 0, "a1(d4[class=x] b2[id=i](c5(b7[k=v]) c6) c3)")
}

// TestDoTreeRefused: dom's errors, each where others hold behind it.
func TestDoTreeRefused(t *testing.T) {
	ask(t, some(t),
		refused(insert(8, -1, ""), api.ErrNoNode), refused(insert(0, 0, "b"), api.ErrNoNode), refused(insert(2, 3, ""), api.ErrIndex), refused(insert(2, -1, "B"), api.ErrIndex), refused(insert(2, 0, "B"), api.ErrName),
		refused(remove(8), api.ErrNoNode), refused(remove(9), api.ErrNoNode), refused(remove(1), api.ErrHierarchy),
		refused(move(8, 1, -1), api.ErrNoNode), refused(move(1, 8, 0), api.ErrNoNode), refused(move(1, 2, -1), api.ErrHierarchy), refused(move(2, 2, 0), api.ErrHierarchy), refused(move(2, 7, 9), api.ErrHierarchy), refused(move(4, 1, 3), api.ErrIndex), refused(move(4, 2, -1), api.ErrIndex),
		refused(attr(8, "", ""), api.ErrNoNode), refused(attr(7, "", strings.Repeat("a", 1001)), api.ErrName), refused(attr(7, "k", strings.Repeat("a", 1001)), api.ErrText),
		refused(noAttr(8, "k"), api.ErrNoNode), refused(noAttr(5, "k"), api.ErrName), refused(noAttr(7, ""), api.ErrName),
	)
}

// TestDoTreeLimits: of depth and of attributes.
func TestDoTreeLimits(t *testing.T) {
	s := begin(t, "a")
	for id := 1; id < api.MaxDepth; id++ {
		s, _ = s.Do(insert(id, 0, "b"))
	}
	ask(t, s, refused(insert(api.MaxDepth, 0, "b"), api.ErrLimit), told{insert(api.MaxDepth-1, 1, "b"), api.Answer{Id: api.MaxDepth + 1}})
	s, _ = s.Do(insert(1, 0, "c"))
	ask(t, s, refused(move(api.MaxDepth+1, api.MaxDepth, 0), api.ErrLimit), told{move(api.MaxDepth+1, api.MaxDepth-1, 0), api.Answer{}})
	for i := range api.MaxAttrs {
		s, _ = s.Do(attr(1, fmt.Sprint("k", i), "v"))
	}
	ask(t, s, refused(attr(1, "k16", "v"), api.ErrLimit), told{attr(1, "k15", "w"), api.Answer{}})
}

// dressed: an operation leads from some to those sheets; the tree is the same one.
func dressed(t *testing.T, o api.Op, id int, sheets string) {
	t.Helper()
	s := some(t)
	next, a := s.Do(o)
	is(t, fmt.Sprintf("%+v", o), a, api.Answer{Id: id})
	is(t, fmt.Sprintf("the sheets behind %+v", o), rulesOf(next), sheets)
	is(t, fmt.Sprintf("the tree behind %+v", o), next.Doc == s.Doc, true)
}

// rulesOf: all rules by sheets, origins, places, and the names of their declarations; then the sheets' numbers.
func rulesOf(s *State) string {
	var out []string
	for _, p := range s.Sheets.All() {
		r := fmt.Sprint(p.Sheet, "/", p.Origin, "/", p.Index)
		for _, d := range p.Rule.Decls {
			r += ":" + d.Name
		}
		out = append(out, r)
	}
	return strings.Join(out, " ") + fmt.Sprint(" ", s.Sheets.Ids())
}

func TestDoSheets(t *testing.T) {
	is(t, "some", rulesOf(some(t)), "1/1/0:display 1/1/1:color:z-index 3/3/0:color:z-index 3/3/1:font-size:order 3/3/2:order [1 3]")
	dressed(t, add(api.User, "a{m:n} 1{} b{o:p}"), 4, "1/1/0:display 1/1/1:color:z-index 3/3/0:color:z-index 3/3/1:font-size:order 3/3/2:order 4/2/0:m 4/2/1:o [1 3 4]")
	dressed(t, add(api.Agent, ""), 4, "1/1/0:display 1/1/1:color:z-index 3/3/0:color:z-index 3/3/1:font-size:order 3/3/2:order [1 3 4]")
	dressed(t, drop(3), 0, "1/1/0:display 1/1/1:color:z-index [1]")
	dressed(t, drop(1), 0, "3/3/0:color:z-index 3/3/1:font-size:order 3/3/2:order [3]")
	dressed(t, rule(3, 1, "a{m:n}"), 0, "1/1/0:display 1/1/1:color:z-index 3/3/0:color:z-index 3/3/1:m 3/3/2:font-size:order 3/3/3:order [1 3]")
	dressed(t, rule(1, 2, "a{m:n}"), 0, "1/1/0:display 1/1/1:color:z-index 1/1/2:m 3/3/0:color:z-index 3/3/1:font-size:order 3/3/2:order [1 3]")
	dressed(t, noRule(3, 1), 0, "1/1/0:display 1/1/1:color:z-index 3/3/0:color:z-index 3/3/1:order [1 3]")
	dressed(t, noRule(1, 0), 0, "1/1/0:color:z-index 3/3/0:color:z-index 3/3/1:font-size:order 3/3/2:order [1 3]")
}

// TestDoSheetsRefused: sheet's errors, each where others hold behind it.
func TestDoSheetsRefused(t *testing.T) {
	long := strings.Repeat("a", api.MaxText+1)
	ask(t, some(t),
		refused(add(0, long), api.ErrRange), refused(add(4, ""), api.ErrRange), refused(add(api.User, long), api.ErrText),
		refused(drop(2), api.ErrNoNode), refused(drop(0), api.ErrNoNode), refused(drop(4), api.ErrNoNode),
		refused(rule(2, -1, long), api.ErrNoNode), refused(rule(3, 4, long), api.ErrIndex), refused(rule(3, -1, "a{}"), api.ErrIndex), refused(rule(3, 0, long), api.ErrText), refused(rule(3, 0, ""), api.ErrSyntax), refused(rule(3, 0, "a{} b{}"), api.ErrSyntax), refused(rule(3, 0, "1{}"), api.ErrSyntax),
		refused(noRule(2, -1), api.ErrNoNode), refused(noRule(3, 3), api.ErrIndex), refused(noRule(3, -1), api.ErrIndex),
	)
}

// TestDoSheetsLimits: of sheets and of rules.
func TestDoSheetsLimits(t *testing.T) {
	s := begin(t, "a")
	for range api.MaxSheets {
		s, _ = s.Do(add(api.User, strings.Repeat("a{}", 1<<10)))
	}
	ask(t, s, refused(add(api.User, ""), api.ErrLimit), refused(rule(1, 0, "a{}"), api.ErrLimit), told{noRule(1, 0), api.Answer{}})
	s, _ = s.Do(drop(1))
	ask(t, s, refused(add(api.User, strings.Repeat("a{}", 1<<10+1)), api.ErrLimit), told{add(api.User, "a{}"), api.Answer{Id: api.MaxSheets + 1}})
}

func TestDoMatches(t *testing.T) {
	yes, no := api.Answer{Yes: true}, api.Answer{}
	ask(t, some(t),
		told{matches(7, "a > b c b"), yes}, told{matches(7, "a > b"), no}, told{matches(7, "c, [k]"), yes}, told{matches(7, " b "), yes}, told{matches(1, ":root"), yes}, told{matches(2, ":root"), no},
		told{matches(6, ".x.y, #i"), yes}, told{matches(2, ".x.y, #i"), yes}, told{matches(3, ":empty"), yes}, told{matches(2, ":empty"), no}, told{matches(3, "b + c"), yes}, told{matches(1, "*"), yes},
	)
}

func TestDoAll(t *testing.T) {
	of := func(ids ...int) api.Answer { return api.Answer{Nodes: ids} }
	ask(t, some(t),
		told{all(1, "*"), of(4, 2, 5, 7, 6, 3)}, told{all(2, "*"), of(5, 7, 6)}, told{all(7, "*"), of()}, told{all(3, "*"), of()}, told{all(1, "a"), of()},
		told{all(1, ".x, b"), of(4, 2, 7, 6)}, told{all(2, "a c"), of(5, 6)}, told{all(1, "c"), of(5, 6, 3)}, told{all(5, "a > b b"), of(7)}, told{all(2, "b"), of(7)}, told{all(1, ":not(c)"), of(4, 2, 7)},
	)
}

// TestDoAsksOfNone: of an element that is gone, and of none, with a list that is one and with none; then what selector's Text says.
func TestDoAsksOfNone(t *testing.T) {
	s, long := some(t), strings.Repeat("a", api.MaxText+1)
	for _, o := range []api.Op{matches(0, ""), all(0, "")} {
		for _, id := range append(ends(), 8, 9) {
			for _, list := range []string{"*", "a,,b", "", long} {
				o.Node, o.Text = id, list
				ask(t, s, refused(o, api.ErrNoNode))
			}
		}
		o.Node = 7
		for list, err := range map[string]api.Errno{"a,,b": api.ErrSyntax, "": api.ErrSyntax, " ": api.ErrSyntax, ">": api.ErrSyntax, "a >": api.ErrSyntax, ":x": api.ErrSyntax, "1": api.ErrSyntax, "\x00": api.OK, long: api.ErrText, long[1:]: api.OK, long[1:] + ",": api.ErrText} {
			o.Text = list
			ask(t, s, refused(o, err))
		}
	}
}

func TestDoStyle(t *testing.T) {
	of := func(value string) api.Answer { return api.Answer{Value: value} }
	ask(t, some(t),
		told{style(2, "color"), of("#ff0000")}, told{style(5, "color"), of("#ff0000")}, told{style(3, "color"), of("#000000")}, told{style(2, "z-index"), of("1")}, told{style(5, "z-index"), of("auto")},
		told{style(6, "font-size"), of("8px")}, told{style(4, "font-size"), of("8px")}, told{style(7, "font-size"), of("16px")}, told{style(6, "order"), of("7")}, told{style(5, "order"), of("8")}, told{style(4, "display"), of("block")}, told{style(1, "display"), of("block")},
	)
}

// TestDoStyleOfNone: of an element that is gone, of none, and of what is no longhand.
func TestDoStyleOfNone(t *testing.T) {
	s := some(t)
	for _, id := range append(ends(), 8, 9) {
		for _, name := range []string{"color", "margin", ""} {
			ask(t, s, refused(style(id, name), api.ErrNoNode))
		}
	}
	for _, name := range []string{"", "margin", "border", "Color", "color ", "x", "colo", "colors", "\x00"} {
		ask(t, s, refused(style(7, name), api.ErrProp))
	}
}

// TestDoStyleUnderAllRules: each rule that is put in, taken out, or in a sheet that goes, counts at once.
func TestDoStyleUnderAllRules(t *testing.T) {
	s := begin(t, "a", insert(1, 0, "b"))
	for _, x := range []struct {
		o    api.Op
		want string
	}{
		{style(2, "color"), "#000000"},
		{add(api.Author, "b{color:#000001}"), "#000001"},
		{add(api.User, "b{color:#000002}"), "#000001"},
		{rule(2, 0, "b{color:#000003!important}"), "#000003"},
		{rule(1, 1, "b{color:#000004}"), "#000003"},
		{noRule(2, 0), "#000004"},
		{rule(1, 0, "a b{color:#000005}"), "#000005"},
		{add(api.Author, "a > b{color:#000006}"), "#000006"},
		{drop(1), "#000006"},
		{drop(3), "#000002"},
		{drop(2), "#000000"},
		{add(api.Agent, "a{color:#000007}"), "#000007"},
		{attr(2, "class", "x"), "#000007"},
		{add(api.Agent, ".x{color:#000008}"), "#000008"},
		{noAttr(2, "class"), "#000007"},
	} {
		next, a := s.Do(x.o)
		is(t, fmt.Sprintf("%+v", x.o), a.Err, api.OK)
		s = next
		_, a = s.Do(style(2, "color"))
		is(t, fmt.Sprintf("behind %+v", x.o), a, api.Answer{Value: x.want})
	}
}

// TestDoOfNoKind: ErrRange, whatever the fields are.
func TestDoOfNoKind(t *testing.T) {
	s := some(t)
	for _, k := range noKinds() {
		ask(t, s, refused(api.Op{Kind: k}, api.ErrRange), refused(api.Op{Kind: k, Node: 2, To: 1, Index: 0, Sheet: 1, Origin: 1, Name: "b", Text: "b"}, api.ErrRange))
	}
}

// named: the fields that each kind names.
func named(kind int) string {
	return []string{"", "NIa", "N", "NTI", "Nat", "Na", "Ot", "S", "SIt", "SI", "Nt", "Nt", "Na"}[kind]
}

// TestDoLooksAtNamedFields: what a kind does not name makes no difference; what it names does, in one sample at least.
func TestDoLooksAtNamedFields(t *testing.T) {
	s := some(t)
	differs := map[string]bool{}
	for _, o := range samples() {
		if o.Kind < 1 || o.Kind > 12 {
			continue
		}
		next, want := s.Do(o)
		for field, others := range variants(o) {
			for _, other := range others {
				got, a := s.Do(other)
				same := Same(a, want) && shown(got) == shown(next)
				if key := fmt.Sprint(o.Kind, field); strings.Contains(named(o.Kind), field) {
					differs[key] = differs[key] || !same
				} else if !same {
					t.Errorf("%+v: %+v, want %+v", other, a, want)
				}
			}
		}
	}
	for _, k := range kinds() {
		for _, field := range named(k) {
			is(t, fmt.Sprint("kind ", k, " looks at ", string(field)), differs[fmt.Sprint(k, string(field))], true)
		}
	}
}

// variants: an operation with one field as something else, by fields.
func variants(o api.Op) map[string][]api.Op {
	out := map[string][]api.Op{}
	for _, n := range []int{-1, 0, 1, 2, 1 << 40} {
		p := o
		p.Node = n
		out["N"] = append(out["N"], p)
		p = o
		p.To = n
		out["T"] = append(out["T"], p)
		p = o
		p.Index = n
		out["I"] = append(out["I"], p)
		p = o
		p.Sheet = n
		out["S"] = append(out["S"], p)
		p = o
		p.Origin = n
		out["O"] = append(out["O"], p)
	}
	for _, s := range []string{"", "b", "color", "b{}", ",", "\x00"} {
		p := o
		p.Name = s
		out["a"] = append(out["a"], p)
		p = o
		p.Text = s
		out["t"] = append(out["t"], p)
	}
	return out
}

// TestChaptersExample is the chapter's first example.
func TestChaptersExample(t *testing.T) {
	s := begin(t, "a")
	for _, x := range []told{
		{insert(1, 0, "b"), api.Answer{Id: 2}},
		{add(api.Author, "b{color:red}"), api.Answer{Id: 1}},
		{style(2, "color"), api.Answer{Value: "#ff0000"}},
		{all(1, "*"), api.Answer{Nodes: []int{2}}},
	} {
		var a api.Answer
		s, a = s.Do(x.o)
		is(t, fmt.Sprintf("%+v", x.o), a, x.want)
	}
}
