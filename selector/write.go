package selector

import (
	"strings"

	"gouache/api"
	"gouache/nth"
	"gouache/token"
)

// writeList: a good list. Those within are bounded, so it may call itself.
func writeList(out *strings.Builder, l []api.Complex) {
	for i, c := range l {
		if i > 0 {
			out.WriteString(", ")
		}
		for j, part := range c.Parts {
			if j > 0 {
				writeComb(out, c.Combs[j-1])
			}
			for _, s := range part {
				writeSimple(out, s)
			}
		}
	}
}

// writeComb: what stands between two compound selectors.
func writeComb(out *strings.Builder, comb int) {
	out.WriteString(" ")
	if sign := signOf(ofComb, comb); sign != "" {
		out.WriteString(sign)
		out.WriteString(" ")
	}
}

// writeSimple: a simple selector of a good list.
func writeSimple(out *strings.Builder, s api.Simple) {
	switch s.Kind {
	case api.Tag:
		writeTag(out, s.Name)
	case api.Class:
		out.WriteString("." + token.Escape(s.Name))
	case api.ID:
		out.WriteString("#" + token.Escape(s.Name))
	case api.AttrSel:
		writeAttribute(out, s)
	default:
		out.WriteString(":" + signOf(ofKind, s.Kind))
		writeRound(out, s)
	}
}

// writeTag: the name of a type. A * is not escaped, since it means any.
func writeTag(out *strings.Builder, name string) {
	if name != "*" {
		name = token.Escape(name)
	}
	out.WriteString(name)
}

// writeAttribute: what is asked of an attribute, in its block.
func writeAttribute(out *strings.Builder, s api.Simple) {
	out.WriteString("[" + token.Escape(s.Name))
	if s.Op != api.Has {
		out.WriteString(signOf(ofOperator, s.Op) + "=" + token.Quote(s.Value))
	}
	out.WriteString("]")
}

// writeRound: what stands in round brackets behind the name of a kind, if it has such.
func writeRound(out *strings.Builder, s api.Simple) {
	switch {
	case listed(s.Kind):
		out.WriteString("(")
		writeList(out, s.List)
		out.WriteString(")")
	case s.Kind == api.Nth || s.Kind == api.NthLast:
		out.WriteString("(" + nth.Print(s.A, s.B) + ")")
	}
}
