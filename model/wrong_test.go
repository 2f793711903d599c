package model

import (
	"fmt"
	"strings"
	"testing"

	"gouache/api"
	"gouache/dom"
	"gouache/sheet"
)

// TestUnmade: of States that no call made, or that have no Doc or no Sheets, ErrMade ahead of all else, and the State itself.
func TestUnmade(t *testing.T) {
	ops := samples()
	for _, k := range noKinds() {
		ops = append(ops, api.Op{Kind: k, Node: 1, Name: "b", Text: "b"})
	}
	for what, s := range unmade() {
		was := shown(s)
		for _, o := range ops {
			next, a := s.Do(o)
			is(t, fmt.Sprintf("%s: %.200v", what, o), []any{next == s, a}, []any{true, api.Answer{Err: api.ErrMade}})
		}
		is(t, what, shown(s), was)
	}
}

// TestMadeByHand: a State of a Doc and Sheets that calls made is one, whoever put them there.
func TestMadeByHand(t *testing.T) {
	made := some(t)
	s := &State{made.Doc, made.Sheets}
	for _, o := range samples() {
		_, want := made.Do(o)
		_, a := s.Do(o)
		is(t, fmt.Sprintf("%.200v", o), a, want)
	}
}

// TestDocThatNoCallMade: it is a Doc, so dom says what is wrong with it; the sheets go on.
func TestDocThatNoCallMade(t *testing.T) {
	s := &State{&dom.Doc{}, sheet.New()}
	ask(t, s,
		refused(insert(1, 0, "b"), api.ErrMade), refused(remove(1), api.ErrMade), refused(move(1, 1, 0), api.ErrMade), refused(attr(1, "k", ""), api.ErrMade), refused(noAttr(1, "k"), api.ErrMade),
		refused(matches(1, "*"), api.ErrNoNode), refused(all(1, "*"), api.ErrNoNode), refused(style(1, "color"), api.ErrNoNode), refused(api.Op{}, api.ErrRange),
		told{add(api.User, "a{}"), api.Answer{Id: 1}}, refused(drop(1), api.ErrNoNode),
	)
}

// TestSheetsThatNoCallMade: they are Sheets, so sheet says what is wrong with them; the tree goes on.
func TestSheetsThatNoCallMade(t *testing.T) {
	s := &State{begin(t, "a").Doc, &sheet.Sheets{}}
	ask(t, s,
		refused(add(api.User, ""), api.ErrMade), refused(drop(1), api.ErrMade), refused(rule(1, 0, "a{}"), api.ErrMade), refused(noRule(1, 0), api.ErrMade), refused(api.Op{}, api.ErrRange),
		told{insert(1, 0, "b"), api.Answer{Id: 2}}, told{matches(1, "*"), api.Answer{Yes: true}}, told{all(1, "*"), api.Answer{}}, told{style(1, "color"), api.Answer{Value: "#000000"}},
	)
}

// TestNumbersAtTheirEnds: each kind with all numbers far off, which answer an error and change nothing.
func TestNumbersAtTheirEnds(t *testing.T) {
	s := some(t)
	with, was := oState{s.Doc, s.Sheets}, shown(s)
	for _, k := range kinds() {
		for _, n := range ends() {
			o := api.Op{Kind: k, Node: n, To: n, Index: n, Sheet: n, Origin: n, Name: "color", Text: "a{}"}
			_, _, a := take(t, "ends", s, was, with, o)
			is(t, fmt.Sprintf("%+v is refused", o), a.Err == api.OK, false)
			for _, p := range variants(o) {
				for _, q := range p {
					take(t, "ends", s, was, with, q)
				}
			}
		}
	}
}

// texts: some that may not be, or are long or deep.
func texts() []string {
	return []string{
		"", " ", "\x00", "\xff\xfe", "é", "{", "}", "a{", "a{b", "/*", "\"", "\\", "@", "<!--", "a{b:c", ":not(", "[", "a[b='", "\n", ",", "a,", "*{}", "*{}{}", "!important",
		strings.Repeat(":not(", 64) + "a" + strings.Repeat(")", 64), strings.Repeat(":is(", 10000), strings.Repeat("{", 65536), strings.Repeat("(", 65537),
		strings.Repeat("a ", 32767) + "a", strings.Repeat("*,", 32767) + "*", strings.Repeat("\x00", 65536), strings.Repeat("é", 32768), strings.Repeat("é", 32769),
		"a{" + strings.Repeat("color:red;", 6000) + "}", strings.Repeat("a{}", 21845),
	}
}

// TestTextsThatMayNotBe: as names and as texts of each kind.
func TestTextsThatMayNotBe(t *testing.T) {
	s := some(t)
	with, was := oState{s.Doc, s.Sheets}, shown(s)
	for _, k := range kinds() {
		for _, text := range texts() {
			o := api.Op{Kind: k, Node: 2, To: 1, Index: 0, Sheet: 3, Origin: api.User, Name: "color", Text: text}
			next, then, _ := take(t, "text", s, was, with, o)
			is(t, fmt.Sprintf("kind %d text %.40q", k, text), shown(next) == then.shown(), true)
			o.Name, o.Text = text, "b{}"
			take(t, "name", s, was, with, o)
		}
	}
}
