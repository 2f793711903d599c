package selector

import (
	"slices"

	"gouache/api"
)

// pair: two lists that are to be held against each other.
type pair struct {
	a, b []api.Complex
}

// holder holds lists against each other. Lists within wait in a list, not in calls, since nothing bounds how deep they go.
type holder struct {
	waiting []pair
}

// lists: are two lists alike, but for the Lists within?
func (h *holder) lists(a, b []api.Complex) bool {
	return slices.EqualFunc(a, b, h.complexes)
}

// complexes: are two complex selectors?
func (h *holder) complexes(a, b api.Complex) bool {
	return slices.Equal(a.Combs, b.Combs) && slices.EqualFunc(a.Parts, b.Parts, h.compounds)
}

// compounds: are two compound selectors?
func (h *holder) compounds(a, b []api.Simple) bool {
	return slices.EqualFunc(a, b, h.simples)
}

// simples: are two simple selectors? Their Lists wait.
func (h *holder) simples(a, b api.Simple) bool {
	if len(a.List) > 0 || len(b.List) > 0 {
		h.waiting = append(h.waiting, pair{a.List, b.List})
	}
	return a.Kind == b.Kind && a.Name == b.Name && a.Op == b.Op && a.Value == b.Value && a.A == b.A && a.B == b.B
}
