package query

import (
	"slices"

	"gouache/api"
)

// copied: selectors in new memory, with all that is asked of them. Lists within wait in a list, not in calls, as they may be nested deep.
func copied(l []api.Complex) []api.Complex {
	out := slices.Clone(l)
	wait := [][]api.Complex{out}
	for len(wait) > 0 {
		last := len(wait) - 1
		list := wait[last]
		wait = wait[:last]
		for i, c := range list {
			list[i].Combs = slices.Clone(c.Combs)
			list[i].Parts = slices.Clone(c.Parts)
			for k, part := range c.Parts {
				list[i].Parts[k] = slices.Clone(part)
				wait = append(wait, parted(list[i].Parts[k])...)
			}
		}
	}
	return out
}

// parted: puts copies in the places of a Part's Lists, and tells them; what is in those is not copied yet. A List that its Kind does not name is dropped, as it is not looked at, and might be of any size.
func parted(part []api.Simple) [][]api.Complex {
	var lists [][]api.Complex
	for i, s := range part {
		part[i].List = nil
		if s.Kind == api.Not || s.Kind == api.Is || s.Kind == api.Where {
			part[i].List = slices.Clone(s.List)
			lists = append(lists, part[i].List)
		}
	}
	return lists
}
