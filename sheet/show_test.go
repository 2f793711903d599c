package sheet

import (
	"fmt"
	"strings"
	"testing"

	"gouache/api"
	"gouache/parse"
	"gouache/selector"
	"gouache/token"
)

func is(t *testing.T, what string, got, want any) {
	t.Helper()
	if a, b := fmt.Sprint(got), fmt.Sprint(want); a != b {
		t.Errorf("%.200s: %.500s, want %.500s", what, a, b)
	}
}

// showDecl: a declaration as a text from which it may be read again.
func showDecl(d api.Decl) string {
	s := d.Name + ":"
	for _, one := range parse.Flat(d.Value) {
		s += token.Source(one)
	}
	if d.Important {
		s += "!important"
	}
	return s
}

// showRule: a rule as a text from which it may be read again.
func showRule(r api.Rule) string {
	var l []string
	for _, d := range r.Decls {
		l = append(l, showDecl(d))
	}
	return selector.Print(r.Selector) + "{" + strings.Join(l, ";") + "}"
}

func showRules(l []api.Rule) string {
	var out []string
	for _, r := range l {
		out = append(out, showRule(r))
	}
	return strings.Join(out, " ")
}

// read: what Read tells of a text that is not too long.
func read(t *testing.T, text string) string {
	t.Helper()
	l, err := Read(text)
	if err != api.OK {
		t.Fatalf("Read(%.80q): %v", text, err)
	}
	return showRules(l)
}

// show: how Sheets look: each rule behind its sheet, origin and index.
func show(s *Sheets) string {
	var out []string
	for _, p := range s.All() {
		out = append(out, fmt.Sprintf("%d/%d/%d %s", p.Sheet, p.Origin, p.Index, showRule(p.Rule)))
	}
	return fmt.Sprint(s.Ids(), " ", strings.Join(out, " "))
}

// whole: all that Sheets tell, nothing and an empty list being the same.
func whole(s *Sheets) string { return fmt.Sprintf("%+v %v", s.All(), s.Ids()) }

// add, drop, insert and remove: calls that must go well, and make other Sheets.
func (s *Sheets) add(t *testing.T, origin int, text string) *Sheets {
	t.Helper()
	next, id, err := s.Add(origin, text)
	well(t, s, next, err)
	if ids := next.Ids(); ids[len(ids)-1] != id {
		t.Fatalf("Add: %d, and the sheets are %v", id, ids)
	}
	return next
}

func well(t *testing.T, s, next *Sheets, err api.Errno) *Sheets {
	t.Helper()
	if err != api.OK || next == s || next == nil {
		t.Fatalf("%v, the same ones: %v, none: %v", err, next == s, next == nil)
	}
	return next
}

func (s *Sheets) drop(t *testing.T, sheet int) *Sheets {
	t.Helper()
	next, err := s.Drop(sheet)
	return well(t, s, next, err)
}

func (s *Sheets) insert(t *testing.T, sheet, index int, text string) *Sheets {
	t.Helper()
	next, err := s.Insert(sheet, index, text)
	return well(t, s, next, err)
}

func (s *Sheets) remove(t *testing.T, sheet, index int) *Sheets {
	t.Helper()
	next, err := s.Delete(sheet, index)
	return well(t, s, next, err)
}

// refusedAdd, refusedDrop, refusedInsert and refusedDelete: calls that must answer the same Sheets, and an error.
func refusedAdd(t *testing.T, s *Sheets, origin int, text string, want api.Errno) {
	t.Helper()
	next, id, err := s.Add(origin, text)
	refused(t, fmt.Sprintf("Add(%d, %.30q)", origin, text), s, next, err, want)
	is(t, "its number", id, 0)
}

func refusedDrop(t *testing.T, s *Sheets, sheet int, want api.Errno) {
	t.Helper()
	next, err := s.Drop(sheet)
	refused(t, fmt.Sprintf("Drop(%d)", sheet), s, next, err, want)
}

func refusedInsert(t *testing.T, s *Sheets, sheet, index int, text string, want api.Errno) {
	t.Helper()
	next, err := s.Insert(sheet, index, text)
	refused(t, fmt.Sprintf("Insert(%d, %d, %.30q)", sheet, index, text), s, next, err, want)
}

func refusedDelete(t *testing.T, s *Sheets, sheet, index int, want api.Errno) {
	t.Helper()
	next, err := s.Delete(sheet, index)
	refused(t, fmt.Sprintf("Delete(%d, %d)", sheet, index), s, next, err, want)
}

func refused(t *testing.T, what string, s, next *Sheets, err, want api.Errno) {
	t.Helper()
	if next != s || err != want {
		t.Errorf("%s: %v, want %v; the same ones: %v", what, err, want, next == s)
	}
}
