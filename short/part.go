package short

import (
	"slices"

	"gouache/api"
	"gouache/prop"
	"gouache/value"
)

// sides: of one part, of two, three and four: which of them each side has. The two longhands of overflow are as the first two sides: the first part is that of the one, the last that of the other.
var sides = [4][4]int{
	{0, 0, 0, 0},
	{0, 1, 0, 1},
	{0, 1, 2, 1},
	{0, 1, 2, 3},
}

// longhands: those that a name stands for. A longhand stands for itself, as if it were a shorthand of one.
func longhands(name string) []string {
	if _, ok := prop.Find(name); ok {
		return []string{name}
	}
	return prop.Longs(name)
}

// values: those of longhands, in their order, that a declaration's value comes to; nothing, if one of them is not read.
func values(names []string, l []api.Value) []string {
	if wide := value.Wide(l); wide != "" {
		return slices.Repeat([]string{wide}, len(names))
	}
	parts := cut(l)
	if len(parts) == 0 || len(parts) > len(names) {
		return nil
	}
	var out []string
	for side, name := range names {
		s, ok := value.Parse(name, parts[Sides(len(parts), side)])
		if !ok {
			return nil
		}
		out = append(out, s)
	}
	return out
}

// cut: the parts of a value, in the same memory. Nothing stands between Spaces side by side, nor outside of those at the ends, so no part is made there.
func cut(l []api.Value) [][]api.Value {
	var out [][]api.Value
	from := 0
	end := func(to int) {
		if from < to {
			out = append(out, l[from:to])
		}
		from = to + 1
	}
	for i, v := range l {
		if v.Token.Kind == api.Space {
			end(i)
		}
	}
	end(len(l))
	return out
}

// spread: the texts that parts, one to four, come to.
func spread(parts []string) [4]string {
	var out [4]string
	for side, place := range sides[len(parts)-1] {
		out[side] = parts[place]
	}
	return out
}
