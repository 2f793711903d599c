package cascade

import (
	"fmt"
	"math/rand"
	"strconv"
	"testing"

	"gouache/api"
)

// is: one thing is the other, as it is written, both with its texts between quotes and with its numbers.
func is(t *testing.T, what string, got, want any) {
	t.Helper()
	if a, b := written(got), written(want); a != b {
		t.Errorf("%.300s: %.800s, want %.800s", what, a, b)
	}
}

func written(x any) string { return fmt.Sprintf("%v %q", x, x) }

// told: an entry and whether there is one, beside each other.
func told(e Entry, ok bool) []any { return []any{e, ok} }

// none: a list of no entries.
func none() []Entry { return nil }

// of: an entry of a name, with a value by which it is known.
func of(name, value string, origin int, important bool, spec api.Spec, order int) Entry {
	return Entry{name, value, origin, important, spec, order}
}

// valuesOf: the values of entries, with a space behind each.
func valuesOf(l []Entry) string {
	out := ""
	for _, e := range l {
		out += e.Value + " "
	}
	return out
}

// numbered: entries with values that tell where they stand, so that those that are alike in all else can be told apart.
func numbered(l []Entry) []Entry {
	var out []Entry
	for i, e := range l {
		e.Value = strconv.Itoa(i)
		out = append(out, e)
	}
	return out
}

// lists: all lists of up to so many of some things.
func lists[T any](of []T, most int) [][]T {
	out, last := [][]T{nil}, [][]T{nil}
	for range most {
		var next [][]T
		for _, l := range last {
			for _, x := range of {
				next = append(next, append(append([]T{}, l...), x))
			}
		}
		out, last = append(out, next...), next
	}
	return out
}

// orders: a list in all orders.
func orders[T any](l []T) [][]T {
	if len(l) == 0 {
		return [][]T{nil}
	}
	var out [][]T
	for i := range l {
		rest := append(append([]T{}, l[:i]...), l[i+1:]...)
		for _, o := range orders(rest) {
			out = append(out, append([]T{l[i]}, o...))
		}
	}
	return out
}

// grid: an entry of each of these, each with each.
func grid(origins []int, specs []api.Spec, places []int) []Entry {
	var out []Entry
	for _, origin := range origins {
		for _, important := range []bool{false, true} {
			for _, spec := range specs {
				for _, order := range places {
					out = append(out, Entry{Origin: origin, Important: important, Spec: spec, Order: order})
				}
			}
		}
	}
	return out
}

// chance: entries by chance. Few names and numbers, so that many of them meet.
func chance(r *rand.Rand, most int) []Entry {
	names := []string{"", "a", "b", "A", "color", "\xff"}
	var out []Entry
	for range r.Intn(most + 1) {
		e := Entry{Name: names[r.Intn(len(names))], Origin: r.Intn(5), Important: r.Intn(3) == 0, Order: r.Intn(3)}
		e.Spec = api.Spec{A: r.Intn(2), B: r.Intn(2), C: r.Intn(2)}
		out = append(out, e)
	}
	return numbered(out)
}
