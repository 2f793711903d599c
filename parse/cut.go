package parse

import (
	"slices"

	"gouache/api"
	"gouache/text"
)

// is: a value of one of these kinds?
func is(v api.Value, kinds ...int) bool {
	return slices.Contains(kinds, v.Token.Kind)
}

// next: the place of the first value of one of these kinds, or that of the end.
func next(l []api.Value, kinds ...int) int {
	for i, v := range l {
		if is(v, kinds...) {
			return i
		}
	}
	return len(l)
}

// behindAt: what is behind an At and all that belongs to it.
func behindAt(l []api.Value) []api.Value {
	n := next(l, api.Semicolon, api.OpenCurly)
	if n == len(l) {
		return nil
	}
	return l[n+1:]
}

// decl: the declaration that values, at least one, are, if they are one.
func decl(l []api.Value) (api.Decl, bool) {
	rest := behindSpace(l[1:])
	if !is(l[0], api.Ident) || len(rest) == 0 || !is(rest[0], api.Colon) {
		return api.Decl{}, false
	}
	value, important := aheadOfImportant(trimmed(rest[1:]))
	return api.Decl{Name: text.Fold(l[0].Token.Text), Value: own(value), Important: important}, true
}

// aheadOfImportant: what is ahead of the ! and the important with which a trimmed value ends, without Space between, and whether it ends so; else all of it.
func aheadOfImportant(l []api.Value) ([]api.Value, bool) {
	last := len(l) - 1
	if last < 0 || !is(l[last], api.Ident) || text.Fold(l[last].Token.Text) != "important" {
		return l, false
	}
	rest := aheadOfSpace(l[:last])
	last = len(rest) - 1
	if last < 0 || !is(rest[last], api.Delim) || rest[last].Token.Text != "!" {
		return l, false
	}
	return aheadOfSpace(rest[:last]), true
}

// trimmed: what is between Space ahead and Space behind, in the same memory.
func trimmed(l []api.Value) []api.Value {
	return aheadOfSpace(behindSpace(l))
}

// behindSpace: without Space ahead.
func behindSpace(l []api.Value) []api.Value {
	for len(l) > 0 && is(l[0], api.Space) {
		l = l[1:]
	}
	return l
}

// aheadOfSpace: without Space behind.
func aheadOfSpace(l []api.Value) []api.Value {
	for len(l) > 0 && is(l[len(l)-1], api.Space) {
		l = l[:len(l)-1]
	}
	return l
}
