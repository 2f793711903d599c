package sheet

import (
	"fmt"
	"regexp"
	"slices"
	"strings"
	"testing"

	"gouache/api"
)

// The oracle of Read: a second reading, character by character, of texts of a, 1, {, }, ;, :, @, comma and space alone. Rules are told as showRule writes them.
var (
	oAt       = regexp.MustCompile(`\A@a`)
	oDecl     = regexp.MustCompile(`\A(a[a1]*) *:(.*)\z`)
	oSelector = regexp.MustCompile(`\A *a[a1]*( +a[a1]*)*( *, *a[a1]*( +a[a1]*)*)* *\z`)
	oSpaces   = regexp.MustCompile(` +`)
	oCommas   = regexp.MustCompile(` *, *`)
)

// oFind: the place of the first of some characters that stands in no block, or the end.
func oFind(s, chars string) int {
	deep := 0
	for i := range len(s) {
		switch {
		case deep == 0 && strings.IndexByte(chars, s[i]) >= 0:
			return i
		case s[i] == '{':
			deep++
		case s[i] == '}' && deep > 0:
			deep--
		}
	}
	return len(s)
}

// oBlock: what stands in the block that begins a text, and what is behind it.
func oBlock(s string) (in, behind string) {
	deep := 0
	for i := range len(s) {
		switch s[i] {
		case '{':
			deep++
		case '}':
			deep--
		}
		if deep == 0 {
			return s[1:i], s[i+1:]
		}
	}
	return s[1:], ""
}

// oBehindAt: what is behind an At and all that belongs to it.
func oBehindAt(s string) string {
	at := oFind(s, ";{")
	switch {
	case at == len(s):
		return ""
	case s[at] == '{':
		_, s = oBlock(s[at:])
		return s
	}
	return s[at+1:]
}

// oValue: a value as it is written again, with what closes its blocks. Space at the end of one that nothing closed stands within it.
func oValue(s string) string {
	s = strings.TrimLeft(s, " ")
	deep := 0
	for i := range len(s) {
		switch {
		case s[i] == '{':
			deep++
		case s[i] == '}' && deep > 0:
			deep--
		}
	}
	if deep == 0 {
		s = strings.TrimRight(s, " ")
	}
	return oSpaces.ReplaceAllString(s, " ") + strings.Repeat("}", deep)
}

// oDecls: the declarations of a body.
func oDecls(s string) []string {
	var out []string
	for s = strings.TrimLeft(s, " ;"); s != ""; s = strings.TrimLeft(s, " ;") {
		if oAt.MatchString(s) {
			s = oBehindAt(s)
			continue
		}
		end := oFind(s, ";")
		if m := oDecl.FindStringSubmatch(s[:end]); m != nil {
			out = append(out, m[1]+":"+oValue(m[2]))
		}
		s = s[end:]
	}
	return out
}

// oRead: the rules of a text, and how many there are with those that are left out.
func oRead(s string) (rules []string, blocks int) {
	for s = strings.TrimLeft(s, " "); s != ""; s = strings.TrimLeft(s, " ") {
		if oAt.MatchString(s) {
			s = oBehindAt(s)
			continue
		}
		at := oFind(s, "{")
		if at == len(s) {
			break
		}
		prelude := s[:at]
		body, behind := oBlock(s[at:])
		blocks++
		if oSelector.MatchString(prelude) {
			list := oCommas.ReplaceAllString(oSpaces.ReplaceAllString(strings.Trim(prelude, " "), " "), ", ")
			rules = append(rules, list+"{"+strings.Join(oDecls(body), ";")+"}")
		}
		s = behind
	}
	return rules, blocks
}

// The oracle of Sheets: a second telling of the chapter. Rules are texts, each with its sheet's number, in one list, that is copied as a whole before anything is changed.
type oRow struct {
	sheet int
	rule  string
}

// oSheets: of those that no call made the origins are nil.
type oSheets struct {
	origins map[int]int
	used    int
	rows    []oRow
}

func oNew() oSheets { return oSheets{origins: map[int]int{}} }

func (o oSheets) copied() oSheets {
	c := oSheets{map[int]int{}, o.used, append([]oRow{}, o.rows...)}
	for k, v := range o.origins {
		c.origins[k] = v
	}
	return c
}

func (o oSheets) has(sheet int) bool { _, ok := o.origins[sheet]; return ok }

// of: the places of a sheet's rules.
func (o oSheets) of(sheet int) []int {
	var l []int
	for i, r := range o.rows {
		if r.sheet == sheet {
			l = append(l, i)
		}
	}
	return l
}

// keep: the rules of which that is so.
func (o *oSheets) keep(is func(place int, r oRow) bool) {
	var l []oRow
	for i, r := range o.rows {
		if is(i, r) {
			l = append(l, r)
		}
	}
	o.rows = l
}

// oError: an error, and whether it holds. One is asked only where those ahead of it do not hold.
type oError struct {
	err   api.Errno
	holds func() bool
}

func firstOf(l ...oError) api.Errno {
	for _, e := range l {
		if e.holds() {
			return e.err
		}
	}
	return api.OK
}

func (o oSheets) unmade() oError {
	return oError{api.ErrMade, func() bool { return o.origins == nil }}
}

func (o oSheets) none(sheet int) oError {
	return oError{api.ErrNoNode, func() bool { return !o.has(sheet) }}
}

func oLong(text string) oError {
	return oError{api.ErrText, func() bool { return len(text) > 65536 }}
}

func (o oSheets) add(origin int, text string) (oSheets, int, api.Errno) {
	var rules []string
	err := firstOf(o.unmade(), oError{api.ErrRange, func() bool { return origin < 1 || origin > 3 }}, oLong(text), oError{api.ErrLimit, func() bool {
		rules, _ = oRead(text)
		return len(o.origins) == 64 || len(o.rows)+len(rules) > 65536
	}})
	if err != api.OK {
		return o, 0, err
	}
	c := o.copied()
	c.used++
	c.origins[c.used] = origin
	for _, r := range rules {
		c.rows = append(c.rows, oRow{c.used, r})
	}
	return c, c.used, api.OK
}

func (o oSheets) drop(sheet int) (oSheets, api.Errno) {
	if err := firstOf(o.unmade(), o.none(sheet)); err != api.OK {
		return o, err
	}
	c := o.copied()
	delete(c.origins, sheet)
	c.keep(func(place int, r oRow) bool { return r.sheet != sheet })
	return c, api.OK
}

// insert: a rule comes ahead of the one that stands at its index, or behind all others, of whatever sheet.
func (o oSheets) insert(sheet, index int, text string) (oSheets, api.Errno) {
	var rules []string
	blocks := 0
	err := firstOf(o.unmade(), o.none(sheet), oError{api.ErrIndex, func() bool { return index < 0 || index > len(o.of(sheet)) }}, oLong(text), oError{api.ErrSyntax, func() bool {
		rules, blocks = oRead(text)
		return blocks != 1 || len(rules) != 1
	}}, oError{api.ErrLimit, func() bool { return len(o.rows) == 65536 }})
	if err != api.OK {
		return o, err
	}
	c := o.copied()
	place := append(c.of(sheet), len(c.rows))[index]
	c.rows = append(append(append([]oRow{}, c.rows[:place]...), oRow{sheet, rules[0]}), c.rows[place:]...)
	return c, api.OK
}

func (o oSheets) remove(sheet, index int) (oSheets, api.Errno) {
	err := firstOf(o.unmade(), o.none(sheet), oError{api.ErrIndex, func() bool { return index < 0 || index >= len(o.of(sheet)) }})
	if err != api.OK {
		return o, err
	}
	c := o.copied()
	gone := c.of(sheet)[index]
	c.keep(func(place int, r oRow) bool { return place != gone })
	return c, api.OK
}

// ids: the sheets' numbers, rising.
func (o oSheets) ids() []int {
	var l []int
	for id := range o.origins {
		l = append(l, id)
	}
	slices.Sort(l)
	return l
}

// show: as show of Sheets.
func (o oSheets) show() string {
	var out []string
	for _, id := range o.ids() {
		for i, place := range o.of(id) {
			out = append(out, fmt.Sprintf("%d/%d/%d %s", id, o.origins[id], i, o.rows[place].rule))
		}
	}
	return fmt.Sprint(o.ids(), " ", strings.Join(out, " "))
}

// agree: Sheets are what the oracle says.
func agree(t *testing.T, what string, s *Sheets, o oSheets) {
	t.Helper()
	if got, want := show(s), o.show(); got != want {
		t.Fatalf("%s: %s, want %s", what, got, want)
	}
	for id := -1; id <= o.used+1; id++ {
		if got, want := s.Count(id), len(o.of(id)); got != want {
			t.Fatalf("%s: Count(%d) %d, want %d", what, id, got, want)
		}
	}
}
