package cascade

import (
	"slices"
)

// oRanks: what ranks, from the least on, each as the chapter names it.
func oRanks() []Entry {
	return []Entry{
		1: {Origin: 1}, 2: {Origin: 2}, 3: {Origin: 3},
		4: {Origin: 3, Important: true}, 5: {Origin: 2, Important: true}, 6: {Origin: 1, Important: true},
	}
}

func oRank(e Entry) int {
	for rank, x := range oRanks() {
		if rank > 0 && x.Origin == e.Origin && x.Important == e.Important {
			return rank
		}
	}
	return 0
}

// oCompare: two entries by lists of their numbers, from the left.
func oCompare(a, b Entry) int {
	numbers := func(e Entry) []int { return []int{oRank(e), e.Spec.A, e.Spec.B, e.Spec.C, e.Order} }
	return slices.Compare(numbers(a), numbers(b))
}

// oSort: each entry at the place that is how many must stand ahead of it.
func oSort(l []Entry) []Entry {
	out := make([]Entry, len(l))
	for i, e := range l {
		place := 0
		for j, other := range l {
			if c := oCompare(other, e); c < 0 || c == 0 && j < i {
				place++
			}
		}
		out[place] = e
	}
	return out
}

func oNamed(l []Entry, name string) []Entry {
	return slices.DeleteFunc(slices.Clone(l), func(e Entry) bool { return e.Name != name })
}

// oWinner: the one of which none behind it is less, and none ahead of it is more.
func oWinner(l []Entry, name string) (Entry, bool) {
	mine := oNamed(l, name)
	for i, e := range mine {
		ahead := func(x Entry) bool { return oCompare(x, e) > 0 }
		behind := func(x Entry) bool { return oCompare(x, e) >= 0 }
		if !slices.ContainsFunc(mine[:i], ahead) && !slices.ContainsFunc(mine[i+1:], behind) {
			return e, true
		}
	}
	return Entry{}, false
}

func oNames(l []Entry) []string {
	var out []string
	for _, e := range l {
		out = append(out, e.Name)
	}
	slices.Sort(out)
	return slices.Compact(out)
}

func oWinners(l []Entry) []Entry {
	var out []Entry
	for _, name := range oNames(l) {
		e, _ := oWinner(l, name)
		out = append(out, e)
	}
	return out
}

// oChain: the winner, and then the chain of those that are left without it.
func oChain(l []Entry, name string) []Entry {
	var out []Entry
	rest := oNamed(l, name)
	for len(rest) > 0 {
		e, _ := oWinner(rest, name)
		out = append(out, e)
		at := slices.Index(rest, e)
		rest = slices.Delete(rest, at, at+1)
	}
	return out
}
