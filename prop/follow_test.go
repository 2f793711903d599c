package prop

import (
	"slices"
	"testing"
)

// TestEachOnce: no name stands twice, and none is both a longhand's and a shorthand's.
func TestEachOnce(t *testing.T) {
	var all []string
	for _, p := range All() {
		all = append(all, p.Name)
	}
	all = append(all, Shorts()...)
	is(t, "how many", len(all), 54)
	slices.Sort(all)
	is(t, "names", slices.Compact(slices.Clone(all)), all)
}

// TestPlacesAndAll: Place and Find tell of each that stands in All where it stands.
func TestPlacesAndAll(t *testing.T) {
	for i, p := range All() {
		is(t, p.Name, Place(p.Name), i)
		q, ok := Find(p.Name)
		is(t, p.Name, []any{q, ok}, []any{p, true})
	}
}

// TestLongsAreLonghands: each that Longs tells is a longhand, of no other shorthand, side by side with the next one.
func TestLongsAreLonghands(t *testing.T) {
	var told []string
	for _, s := range Shorts() {
		longs := Longs(s)
		for i, name := range longs {
			is(t, name, Place(name), Place(longs[0])+i)
			p, _ := Find(name)
			first, _ := Find(longs[0])
			is(t, name, []any{p.Initial, p.Inherits, p.Form}, []any{first.Initial, first.Inherits, first.Form})
		}
		told = append(told, longs...)
	}
	is(t, "how many", len(told), 22)
	slices.Sort(told)
	is(t, "told", slices.Compact(slices.Clone(told)), told)
}

// TestRising: Shorts rise by bytes.
func TestRising(t *testing.T) {
	is(t, "Shorts", slices.IsSorted(Shorts()), true)
}

// TestInitials: an Initial that is a word or a sign of a Form's part is one of the Form's, or is an amount, a number or a colour that the Form has.
func TestInitials(t *testing.T) {
	measured := []struct{ initial, part string }{{"0px", "<len>"}, {"0px", "<len+>"}, {"16px", "<len+>"}, {"#000000", "<color>"}, {"0", "<int>"}}
	for _, p := range All() {
		l := Forms(p)
		ok := slices.Contains(l, p.Initial)
		for _, m := range measured {
			ok = ok || m.initial == p.Initial && slices.Contains(l, m.part)
		}
		is(t, p.Name+" "+p.Initial, ok, true)
	}
}
