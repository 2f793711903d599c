package sheet

import (
	"slices"

	"gouache/api"
)

// each: a list in new memory, of what a function makes of each one.
func each[T any](l []T, own func(T) T) []T {
	out := slices.Clone(l)
	for i := range out {
		out[i] = own(out[i])
	}
	return out
}

// ownRule: a rule in new memory, with all that is in it. (What is in one is nested no deeper than Read lets it be.)
func ownRule(r api.Rule) api.Rule {
	return api.Rule{Selector: each(r.Selector, ownComplex), Decls: each(r.Decls, ownDecl)}
}

func ownComplex(c api.Complex) api.Complex {
	return api.Complex{Parts: each(c.Parts, ownCompound), Combs: slices.Clone(c.Combs)}
}

func ownCompound(l []api.Simple) []api.Simple { return each(l, ownSimple) }

func ownSimple(s api.Simple) api.Simple {
	s.List = each(s.List, ownComplex)
	return s
}

func ownDecl(d api.Decl) api.Decl {
	d.Value = each(d.Value, ownValue)
	return d
}

func ownValue(v api.Value) api.Value {
	v.Kids = each(v.Kids, ownValue)
	return v
}
