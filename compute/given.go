package compute

import (
	"gouache/bucket"
	"gouache/cascade"
	"gouache/dom"
	"gouache/match"
	"gouache/prop"
	"gouache/query"
	"gouache/sheet"
	"gouache/short"
)

// The words that stand for another value.
const (
	inherit = "inherit"
	initial = "initial"
	unset   = "unset"
)

// said: what the rules say of an element, with an index of them or without.
func said(d *dom.Doc, id int, l []sheet.Placed, x *bucket.Index) []cascade.Entry {
	var out []cascade.Entry
	for _, place := range query.Matched(d, id, l, x) {
		p := l[place]
		spec, _ := match.Best(d, id, p.Rule.Selector)
		for _, long := range short.All(p.Rule.Decls) {
			e := cascade.Entry{Name: long.Name, Value: long.Value, Important: long.Important}
			e.Origin, e.Spec, e.Order = p.Origin, spec, place
			out = append(out, e)
		}
	}
	return out
}

// meant: what a longhand's value stands for, where the parent has such a one.
func meant(p prop.Prop, value, above string) string {
	if value == unset {
		value = initial
		if p.Inherits {
			value = inherit
		}
	}
	switch value {
	case inherit:
		return above
	case initial:
		return p.Initial
	}
	return value
}
