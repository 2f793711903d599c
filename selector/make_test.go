package selector

import (
	"math/rand"
	"strconv"
	"strings"

	"gouache/api"
	"gouache/nth"
	"gouache/token"
)

// written: a list in a text, whether it is good or not, with no call of the package but those below it.
func written(l []api.Complex) string {
	var all []string
	for _, c := range l {
		s := ""
		for i, part := range c.Parts {
			if i > 0 && i <= len(c.Combs) {
				s += map[int]string{1: " ", 2: " > ", 3: " + ", 4: " ~ "}[c.Combs[i-1]]
			}
			for _, one := range part {
				s += writtenSimple(one)
			}
		}
		all = append(all, s)
	}
	return strings.Join(all, ", ")
}

func writtenSimple(s api.Simple) string {
	switch s.Kind {
	case api.Tag:
		if s.Name == "*" {
			return "*"
		}
		return token.Escape(s.Name)
	case api.Class:
		return "." + token.Escape(s.Name)
	case api.ID:
		return "#" + token.Escape(s.Name)
	case api.AttrSel:
		if s.Op < 1 || s.Op > 6 {
			return "[" + token.Escape(s.Name) + "]"
		}
		return "[" + token.Escape(s.Name) + []string{"=", "~=", "|=", "^=", "$=", "*="}[s.Op-1] + token.Quote(s.Value) + "]"
	case api.Not:
		return ":not(" + written(s.List) + ")"
	case api.Is:
		return ":is(" + written(s.List) + ")"
	case api.Where:
		return ":where(" + written(s.List) + ")"
	case api.Nth:
		return ":nth-child(" + nth.Print(s.A, s.B) + ")"
	case api.NthLast:
		return ":nth-last-child(" + nth.Print(s.A, s.B) + ")"
	case api.Root:
		return ":root"
	case api.Empty:
		return ":empty"
	}
	return "kind" + strconv.Itoa(s.Kind)
}

// maker makes good lists by chance, the same ones each time.
type maker struct{ *rand.Rand }

func newMaker(seed int64) maker { return maker{rand.New(rand.NewSource(seed))} }

func (m maker) pick(l ...string) string { return l[m.Intn(len(l))] }

func (m maker) text() string {
	s := ""
	for range 1 + m.Intn(3) {
		s += m.pick("a", "B", "z", "0", "9", "-", "_", "*", " ", ".", "#", "\"", "'", "\\", "\n", "\r", "\x01", "\x1f", "\x7f", "\u0080", "\u00e9", "\ufffd", "\U0010ffff", ",", ">", "(", ")", "[", "]", "=", ":", "e", "/*", "-->", "url(")
	}
	return s
}

func (m maker) folded() string {
	return strings.Map(func(c rune) rune {
		if c >= 'A' && c <= 'Z' {
			return c + 'a' - 'A'
		}
		return c
	}, m.text())
}

func (m maker) number() int {
	return []int{0, 1, -1, 2, -2, 3, 10, 999999, 1000000, -1000000, m.Intn(2000001) - 1000000}[m.Intn(11)]
}

// simple: one that may stand at a place of a compound one; lists are nested at most so deep as told.
func (m maker) simple(place, deep int) api.Simple {
	kind := 1 + m.Intn(11)
	if kind == api.Tag && place > 0 || deep < 2 && kind >= api.Not && kind <= api.Where {
		kind = api.Class
	}
	s := api.Simple{Kind: kind}
	switch kind {
	case api.Tag:
		s.Name = m.pick("*", "a", "div", m.folded(), m.folded())
	case api.Class, api.ID:
		s.Name = m.text()
	case api.AttrSel:
		s.Name, s.Op = m.folded(), m.Intn(7)
		if s.Op != api.Has {
			s.Value = m.pick("", m.text(), m.text())
		}
	case api.Nth, api.NthLast:
		s.A, s.B = m.number(), m.number()
	case api.Not, api.Is, api.Where:
		s.List = m.list(deep - 1)
	}
	return s
}

func (m maker) list(deep int) []api.Complex {
	var out []api.Complex
	for range 1 + m.Intn(3) {
		var c api.Complex
		for i := range 1 + m.Intn(3) {
			if i > 0 {
				c.Combs = append(c.Combs, 1+m.Intn(4))
			}
			var part []api.Simple
			for j := range 1 + m.Intn(3) {
				part = append(part, m.simple(j, deep))
			}
			c.Parts = append(c.Parts, part)
		}
		out = append(out, c)
	}
	return out
}

// copied: a list in other memory.
func copied(l []api.Complex) []api.Complex {
	var out []api.Complex
	for _, c := range l {
		one := api.Complex{Combs: append([]int(nil), c.Combs...)}
		for _, part := range c.Parts {
			p := append([]api.Simple(nil), part...)
			for i := range p {
				p[i].List = copied(p[i].List)
			}
			one.Parts = append(one.Parts, p)
		}
		out = append(out, one)
	}
	return out
}

// eachSimple calls f with all simple selectors of a list, and with those within.
func eachSimple(l []api.Complex, f func(s *api.Simple)) {
	for _, c := range l {
		for _, part := range c.Parts {
			for i := range part {
				eachSimple(part[i].List, f)
				f(&part[i])
			}
		}
	}
}
