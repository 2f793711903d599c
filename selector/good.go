package selector

import (
	"strings"
	"unicode/utf8"

	"gouache/api"
	"gouache/text"
)

const (
	// deepest: lists are nested at most so deep.
	deepest = 32
	// bound: numbers that are read are not above it, nor below it with a - ahead.
	bound = 1000000
)

// goodList: may a list be, that is nested so deep?
func goodList(l []api.Complex, deep int) bool {
	if len(l) == 0 || deep > deepest {
		return false
	}
	for _, c := range l {
		if !goodCombs(c) {
			return false
		}
		for _, part := range c.Parts {
			if !goodCompound(part, deep) {
				return false
			}
		}
	}
	return true
}

// goodCombs: is there one comb fewer than there are compound selectors (so that there is at least one of these)?
func goodCombs(c api.Complex) bool {
	if len(c.Combs) != len(c.Parts)-1 {
		return false
	}
	for _, comb := range c.Combs {
		if comb < api.Descendant || comb > api.Later {
			return false
		}
	}
	return true
}

// goodCompound: may a compound selector be, in a list that is nested so deep?
func goodCompound(l []api.Simple, deep int) bool {
	for i, s := range l {
		if s.Kind == api.Tag && i > 0 || !goodSimple(s, deep) {
			return false
		}
	}
	return len(l) > 0
}

// goodSimple: may a simple selector be, in a list that is nested so deep? What its kind names is looked at and then made zero, so that the rest is what it does not name.
func goodSimple(s api.Simple, deep int) bool {
	rest := s
	good := false
	switch s.Kind {
	case api.Tag:
		good = goodName(s.Name)
		rest.Name = ""
	case api.Class, api.ID:
		good = s.Name != "" && goodText(s.Name)
		rest.Name = ""
	case api.AttrSel:
		good = goodName(s.Name) && goodValue(s.Op, s.Value)
		rest.Name, rest.Op, rest.Value = "", 0, ""
	case api.Nth, api.NthLast:
		good = goodNumber(s.A) && goodNumber(s.B)
		rest.A, rest.B = 0, 0
	case api.Root, api.Empty:
		good = true
	case api.Not, api.Is, api.Where:
		good = goodList(s.List, deep+1)
		rest.List = nil
	}
	return good && zero(rest)
}

// zero: is there nothing in a simple selector, whatever its kind?
func zero(s api.Simple) bool {
	return s.Name == "" && s.Op == 0 && s.Value == "" && s.A == 0 && s.B == 0 && len(s.List) == 0
}

// goodName: may a type or an attribute be named so? (A * is not empty and its own Fold, too.)
func goodName(s string) bool {
	return s != "" && text.Fold(s) == s && goodText(s)
}

// goodValue: may a value stand behind an operator?
func goodValue(op int, value string) bool {
	if op == api.Has {
		return value == ""
	}
	return op >= api.Equal && op <= api.Contains && goodText(value)
}

// goodText: is there no U+0000 and no byte that is no character in it?
func goodText(s string) bool {
	return utf8.ValidString(s) && !strings.Contains(s, "\x00")
}

// goodNumber: may nth have read it?
func goodNumber(n int) bool {
	return n >= -bound && n <= bound
}
