package bucket

import (
	"fmt"
	"regexp"
	"slices"
	"testing"

	"gouache/api"
	"gouache/sheet"
)

// The oracle: a second telling of the chapter, without buckets. A name is a text of a kind's sign and the name behind it; each rule is asked for itself whether it has one.
type oNode struct {
	tag   string
	attrs map[string]string
}

// oSign: a kind's sign.
func oSign(kind int) string {
	switch kind {
	case api.ID:
		return "#"
	case api.Class:
		return "."
	case api.Tag:
		return "<"
	}
	return "?"
}

// oLast: a selector's name; nothing, if it has none. The last part is gone over from behind, so that of several the first one stays.
func oLast(c api.Complex) string {
	var id, class, tag string
	for i, part := range c.Parts {
		if i+1 < len(c.Parts) {
			continue
		}
		for n := len(part) - 1; n >= 0; n-- {
			switch s := part[n]; {
			case s.Kind == api.ID:
				id = "#" + s.Name
			case s.Kind == api.Class:
				class = "." + s.Name
			case s.Kind == api.Tag && s.Name != "*":
				tag = "<" + s.Name
			}
		}
	}
	for _, name := range []string{id, class, tag} {
		if name != "" {
			return name
		}
	}
	return ""
}

// oNamed: has a rule a selector of one of these names?
func oNamed(r api.Rule, names ...string) bool {
	return slices.ContainsFunc(r.Selector, func(c api.Complex) bool { return slices.Contains(names, oLast(c)) })
}

// oPlaces: those of the rules that have.
func oPlaces(l []sheet.Placed, names ...string) []int {
	var out []int
	for i, p := range l {
		if oNamed(p.Rule, names...) {
			out = append(out, i)
		}
	}
	return out
}

func oSize(l []sheet.Placed, kind int, name string) int {
	if kind == 0 && name == "" {
		return len(oPlaces(l, ""))
	}
	return len(oPlaces(l, oSign(kind)+name))
}

func oPick(l []sheet.Placed, n oNode) []int {
	if n.tag == "" {
		return nil
	}
	names := []string{"", "<" + n.tag}
	if value, ok := n.attrs["id"]; ok {
		names = append(names, "#"+value)
	}
	for _, word := range regexp.MustCompile(`[^ \t\n]+`).FindAllString(n.attrs["class"], -1) {
		names = append(names, "."+word)
	}
	return oPlaces(l, names...)
}

// is: one thing is the other, as it is written.
func is(t *testing.T, what string, got, want any) {
	t.Helper()
	if a, b := fmt.Sprint(got), fmt.Sprint(want); a != b {
		t.Errorf("%.300s: %.500s, want %.500s", what, a, b)
	}
}

// lastIs: a selector's Last, as the oracle writes it.
func lastIs(t *testing.T, what string, c api.Complex, want string) {
	t.Helper()
	kind, name := Last(c)
	got := oSign(kind) + name
	if kind == 0 && name == "" {
		got = ""
	}
	if got != want {
		t.Fatalf("%s: Last of %v: %d %q, want %q", what, c, kind, name, want)
	}
}

// counts: an Index's Len and all Sizes are what the oracle says.
func counts(t *testing.T, what string, x *Index, l []sheet.Placed) {
	t.Helper()
	if x.Len() != len(l) {
		t.Fatalf("%s: Len: %d, want %d", what, x.Len(), len(l))
	}
	for kind := -1; kind <= api.Empty+1; kind++ {
		for _, name := range []string{"", "*", "a", "b", "c", "x", "y", "x-y", "xy", "x y", "k", "q"} {
			if got, want := x.Size(kind, name), oSize(l, kind, name); got != want {
				t.Fatalf("%s: Size(%d, %q): %d, want %d", what, kind, name, got, want)
			}
		}
	}
}

// picks: what is Picked of each number, and of some that none has, is what the oracle says.
func picks(t *testing.T, what string, x *Index, l []sheet.Placed, o one) {
	t.Helper()
	for id := -1; id <= o.doc.Next()+1; id++ {
		if got, want := x.Pick(o.doc, id), oPick(l, o.says[id]); !slices.Equal(got, want) {
			t.Fatalf("%s: Pick of %d (%q): %v, want %v", what, id, o.says[id], got, want)
		}
	}
}
