package parse

import "gouache/api"

// closeOf: the kind of the Close of a block; 0 of what is no block.
func closeOf(kind int) int {
	switch kind {
	case api.OpenSquare:
		return api.CloseSquare
	case api.OpenRound, api.Function:
		return api.CloseRound
	case api.OpenCurly:
		return api.CloseCurly
	}
	return 0
}

// closes: is a token the Close of the block that another one opens?
func closes(open api.Token) func(t api.Token) bool {
	kind := closeOf(open.Kind)
	return func(t api.Token) bool { return t.Kind == kind }
}

// read: the values up to the token that ends them, and the tokens behind that one. So many blocks are around them as nest says.
func read(l []api.Token, nest int, ends func(t api.Token) bool) ([]api.Value, []api.Token) {
	var out []api.Value
	for len(l) > 0 {
		t := l[0]
		l = l[1:]
		switch {
		case ends(t):
			return out, l
		case closeOf(t.Kind) == 0:
			out = append(out, api.Value{Token: t})
		case nest == api.MaxNest:
			l = behind(l, t)
		default:
			v := api.Value{Token: t}
			v.Kids, l = read(l, nest+1, closes(t))
			out = append(out, v)
		}
	}
	return out, nil
}

// behind: the tokens behind a block that is left out, whose first token was told. What is open stands in a list, not in calls, since nothing bounds how deep such a block goes.
func behind(l []api.Token, first api.Token) []api.Token {
	open := []int{closeOf(first.Kind)}
	for i, t := range l {
		last := len(open) - 1
		if t.Kind == open[last] {
			open = open[:last]
		} else if kind := closeOf(t.Kind); kind != 0 {
			open = append(open, kind)
		}
		if len(open) == 0 {
			return l[i+1:]
		}
	}
	return nil
}

// flatten: the tokens of values, behind those that are told already.
func flatten(out []api.Token, l []api.Value) []api.Token {
	for _, v := range l {
		out = append(out, v.Token)
		if kind := closeOf(v.Token.Kind); kind != 0 {
			out = append(flatten(out, v.Kids), api.Token{Kind: kind})
		}
	}
	return out
}

// own: values in new memory, and all that is in them.
func own(l []api.Value) []api.Value {
	if len(l) == 0 {
		return nil
	}
	out := make([]api.Value, len(l))
	for i, v := range l {
		out[i] = api.Value{Token: v.Token, Kids: own(v.Kids)}
	}
	return out
}
