package selector

import "gouache/api"

// weighed: does a kind take its specificity from its List?
func weighed(kind int) bool {
	return kind == api.Not || kind == api.Is
}

// spread: a list and all Lists within it that are weighed, each behind that in which it stands, and for each the place of the first one within it. They stand in a list, not in calls, since nothing bounds how deep they go.
func spread(l []api.Complex) ([][]api.Complex, []int) {
	all := [][]api.Complex{l}
	var inner []int
	for i := 0; i < len(all); i++ {
		inner = append(inner, len(all))
		for _, s := range within(all[i], weighed) {
			all = append(all, s.List)
		}
	}
	return all, inner
}

// greatest: the greatest specificity of a list; inner begins with those of the Lists within it, from left to right.
func greatest(l []api.Complex, inner []api.Spec) api.Spec {
	var out api.Spec
	for _, c := range l {
		var sum api.Spec
		for _, part := range c.Parts {
			for _, s := range part {
				if weighed(s.Kind) {
					sum = plus(sum, inner[0])
					inner = inner[1:]
				} else {
					sum = plus(sum, single(s))
				}
			}
		}
		if Less(out, sum) {
			out = sum
		}
	}
	return out
}

// single: the specificity of a simple selector that takes none from a List.
func single(s api.Simple) api.Spec {
	switch s.Kind {
	case api.ID:
		return api.Spec{A: 1}
	case api.Class, api.AttrSel, api.Nth, api.NthLast, api.Root, api.Empty:
		return api.Spec{B: 1}
	case api.Tag:
		if s.Name != "*" {
			return api.Spec{C: 1}
		}
	}
	return api.Spec{}
}

// plus: the sum of two, each part at most MaxSpec.
func plus(a, b api.Spec) api.Spec {
	return api.Spec{A: min(a.A+b.A, api.MaxSpec), B: min(a.B+b.B, api.MaxSpec), C: min(a.C+b.C, api.MaxSpec)}
}
