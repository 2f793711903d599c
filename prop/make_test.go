package prop

import (
	"fmt"
	"math/rand"
	"slices"
	"strings"
	"testing"
)

// is: one thing is the other, as it is written, both with its texts between quotes and with its numbers.
func is(t *testing.T, what string, got, want any) {
	t.Helper()
	if a, b := written(got), written(want); a != b {
		t.Errorf("%.300s: %.500s, want %.500s", what, a, b)
	}
}

func written(x any) string { return fmt.Sprintf("%v %q", x, x) }

// names: those of all longhands and shorthands, as the chapter tells them.
func names() []string {
	var out []string
	for _, p := range oAll() {
		out = append(out, p.Name)
	}
	for _, s := range oShorts() {
		out = append(out, s.name)
	}
	return out
}

// beside: all that one byte makes of a name: left out, put in, put in another's place, or two of them swapped.
func beside(name string) []string {
	var out []string
	for i := range len(name) {
		out = append(out, name[:i]+name[i+1:], name[:i], name[i:])
		if i > 0 {
			out = append(out, name[:i-1]+name[i:i+1]+name[i-1:i]+name[i+1:])
		}
	}
	for i := range len(name) + 1 {
		for b := range 256 {
			one := string([]byte{byte(b)})
			out = append(out, name[:i]+one+name[i:])
			if i < len(name) {
				out = append(out, name[:i]+one+name[i+1:])
			}
		}
	}
	return out
}

// odd: names that none has: empty, in other letters, with spaces, with bytes that are no characters, very long.
func odd() []string {
	out := []string{"", " ", "-", "\x00", "\xff", "\xc3", "\xed\xa0\x80", "\xf4\x90\x80\x80", "ſize", "\u212aolor", "cоlor", "colo\u0301r", "\ufeffcolor", "border", "border-top", "border-top-", "border--width", "border-middle-width", "border-width-top", "margin-", "margin-x", "-top", "top-", "overflow-", "overflow-z", "padding-start", "background", "font", "inherit", "initial", "Name", "|", "a|b", "<len>", "--color", "color\x00", "\x00color", "none", "auto",
		strings.Repeat("a", 1<<16), strings.Repeat("\xff", 1<<20), strings.Repeat("margin-top", 1<<16), strings.Repeat("-", 1<<22)}
	for _, n := range names() {
		out = append(out, strings.ToUpper(n), strings.ToUpper(n[:1])+n[1:], n+" ", " "+n, n+"\n", "\t"+n, n+"\x00", n+"\xff", n+n, n+":", "-webkit-"+n, n+strings.Repeat(" ", 1<<12), strings.Repeat(n, 1<<10), strings.ReplaceAll(n, "-", "_"), strings.ReplaceAll(n, "-", ""), n+"-top", n+"-left", "border-"+n, n+"-width")
	}
	return slices.DeleteFunc(out, func(n string) bool { return slices.Contains(names(), n) })
}

// chance: a text of pieces that stand in names and forms, and of others.
func chance(r *rand.Rand) string {
	pieces := []string{"|", "|", "", "a", "border", "top", "left", "width", "-", "-", "margin", "overflow", "x", "<len+>", "\xff", "é", " ", "\u2028", "/", "\\", "color"}
	var out string
	for range r.Intn(8) {
		out += pieces[r.Intn(len(pieces))]
	}
	return out
}
