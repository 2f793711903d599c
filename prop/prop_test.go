package prop

import (
	"fmt"
	"math/rand"
	"slices"
	"strings"
	"testing"
)

func TestAll(t *testing.T) {
	got, want := All(), oAll()
	is(t, "how many", []int{len(got), len(want)}, []int{48, 48})
	for i, p := range want {
		if i < len(got) {
			is(t, fmt.Sprint("row ", i), got[i], p)
		}
	}
	is(t, "All", got, want)
}

// TestRows: some rows, written out here by hand as api's callers see them.
func TestRows(t *testing.T) {
	for _, c := range []struct {
		place int
		want  Prop
	}{
		{0, Prop{"display", "inline", false, "block|inline|inline-block|flex|grid|none|contents|table"}},
		{1, Prop{"position", "static", false, "static|relative|absolute|fixed|sticky"}},
		{4, Prop{"visibility", "visible", true, "visible|hidden|collapse"}},
		{8, Prop{"width", "auto", false, "auto|<len+>|<pct+>"}},
		{13, Prop{"max-height", "none", false, "none|<len+>|<pct+>"}},
		{17, Prop{"margin-left", "0px", false, "auto|<len>|<pct>"}},
		{18, Prop{"padding-top", "0px", false, "<len+>|<pct+>"}},
		{25, Prop{"border-left-width", "medium", false, "thin|medium|thick|<len+>"}},
		{30, Prop{"border-top-color", "currentcolor", false, "currentcolor|transparent|<color>"}},
		{38, Prop{"color", "#000000", true, "<color>"}},
		{39, Prop{"background-color", "transparent", false, "transparent|currentcolor|<color>"}},
		{42, Prop{"line-height", "normal", true, "normal|<int+>|<len+>|<pct+>"}},
		{46, Prop{"order", "0", false, "<int>"}},
		{47, Prop{"z-index", "auto", false, "auto|<int>"}},
	} {
		is(t, "All", All()[c.place], c.want)
		is(t, "Place", Place(c.want.Name), c.place)
		p, ok := Find(c.want.Name)
		is(t, "Find", []any{p, ok}, []any{c.want, true})
	}
}

// asked: a name is asked of Find, Place and Longs, and what they tell is the chapter's.
func asked(t *testing.T, name string) {
	t.Helper()
	var want Prop
	place := oPlace(name)
	if place >= 0 {
		want = oAll()[place]
	}
	asks(t, name, place, want, oLongs(name))
}

// asks: what Find, Place and Longs tell of a name.
func asks(t *testing.T, name string, place int, want Prop, longs []string) {
	t.Helper()
	p, ok := Find(name)
	if p != want || ok != (place >= 0) {
		t.Errorf("Find(%.100q): %v %t", name, p, ok)
	}
	if got := Place(name); got != place {
		t.Errorf("Place(%.100q): %d, want %d", name, got, place)
	}
	if got := Longs(name); !slices.Equal(got, longs) {
		t.Errorf("Longs(%.100q): %q, want %q", name, got, longs)
	}
}

func TestFindAndPlace(t *testing.T) {
	for i, p := range oAll() {
		asks(t, p.Name, i, p, nil)
	}
}

// TestFoundNames: a name is found by its bytes, wherever they lie in memory.
func TestFoundNames(t *testing.T) {
	for i, p := range oAll() {
		asks(t, string([]byte(p.Name)), i, p, nil)
		asks(t, ("x" + p.Name + "y")[1:len(p.Name)+1], i, p, nil)
	}
}

// TestBeside: what one byte makes of a name is no name, but where the chapter has it.
func TestBeside(t *testing.T) {
	known := map[string]bool{}
	for _, n := range names() {
		known[n] = true
	}
	for _, n := range names() {
		for _, b := range beside(n) {
			if known[b] {
				asked(t, b)
			} else {
				asks(t, b, -1, Prop{}, nil)
			}
		}
	}
}

func TestShortsAreNoLonghands(t *testing.T) {
	for _, s := range oShorts() {
		asks(t, s.name, -1, Prop{}, s.longs)
	}
}

func TestForms(t *testing.T) {
	for _, p := range oAll() {
		is(t, p.Name, Forms(p), oForms(p.Form))
	}
	for i, p := range All() {
		is(t, p.Name, strings.Join(Forms(p), " / "), strings.ReplaceAll(oAll()[i].Form, "|", " / "))
	}
}

// TestFormsOfOthers: Forms looks at the Form alone, of whatever Prop.
func TestFormsOfOthers(t *testing.T) {
	for _, c := range []struct {
		form string
		want []string
	}{
		{"", []string{""}},
		{"a", []string{"a"}},
		{"|", []string{"", ""}},
		{"||", []string{"", "", ""}},
		{"a|", []string{"a", ""}},
		{"|a", []string{"", "a"}},
		{"a||b", []string{"a", "", "b"}},
		{"a|b|a", []string{"a", "b", "a"}},
		{"a / b", []string{"a / b"}},
		{"a | b", []string{"a ", " b"}},
		{" ", []string{" "}},
		{"a/b", []string{"a/b"}},
		{"\\|", []string{"\\", ""}},
		{"<len+>", []string{"<len+>"}},
		{"\xff|\xfe", []string{"\xff", "\xfe"}},
		{"\u01c0|\uff5c", []string{"\u01c0", "\uff5c"}},
		{"\x00|", []string{"\x00", ""}},
		{"é|ä", []string{"é", "ä"}},
	} {
		for _, p := range []Prop{{Form: c.form}, {"color", "x", true, c.form}, {"no|ne", "a|b", false, c.form}} {
			is(t, fmt.Sprintf("Forms of %q", c.form), Forms(p), c.want)
		}
		is(t, "second telling", oForms(c.form), c.want)
	}
}

func TestFormsByChance(t *testing.T) {
	r := rand.New(rand.NewSource(1))
	for range 20000 {
		form := chance(r)
		is(t, fmt.Sprintf("Forms of %q", form), Forms(Prop{Name: chance(r), Initial: chance(r), Inherits: r.Intn(2) == 0, Form: form}), oForms(form))
	}
}

func TestLongs(t *testing.T) {
	for _, s := range oShorts() {
		is(t, s.name, Longs(s.name), s.longs)
	}
	for _, p := range oAll() {
		is(t, p.Name, Longs(p.Name), []string{})
	}
}

func TestShorts(t *testing.T) {
	var want []string
	for _, s := range oShorts() {
		want = append(want, s.name)
	}
	slices.Sort(want)
	is(t, "Shorts", Shorts(), want)
	is(t, "Shorts", Shorts(), []string{"border-color", "border-style", "border-width", "margin", "overflow", "padding"})
}

func TestExample(t *testing.T) {
	p, ok := Find("color")
	is(t, "Find(color)", []any{p.Initial, p.Inherits, ok}, []any{"#000000", true, true})
	is(t, "Longs(overflow)", Longs("overflow"), []string{"overflow-x", "overflow-y"})
	is(t, "Place(position)", Place("position"), 1)
}

func TestNamesByChance(t *testing.T) {
	r := rand.New(rand.NewSource(2))
	for range 5000 {
		asked(t, chance(r))
	}
}
