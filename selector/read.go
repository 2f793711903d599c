package selector

import (
	"gouache/api"
	"gouache/nth"
	"gouache/text"
)

// task: values that are still to be read as a list, and where that belongs.
type task struct {
	from []api.Value
	to   *[]api.Complex
}

// reader reads values from the left: rest is what it has not read yet, kids are those of the functions whose Lists are still to be read.
type reader struct {
	rest []api.Value
	kids [][]api.Value
}

// tasks: what is still to be read of a list that this reader told.
func (r *reader) tasks(l []api.Complex) []task {
	var out []task
	for i, s := range within(l, listed) {
		out = append(out, task{r.kids[i], &s.List})
	}
	return out
}

// list: all that is left, as a list, but for the Lists within.
func (r *reader) list() ([]api.Complex, bool) {
	var out []api.Complex
	for {
		r.spaces()
		c, ok := r.complex()
		if !ok {
			return nil, false
		}
		out = append(out, c)
		if len(r.rest) == 0 {
			return out, true
		}
		if !r.ahead(0, api.Comma) {
			return nil, false
		}
		r.skip(1)
	}
}

// complex: compound selectors, and Spaces behind them, up to what is none of theirs.
func (r *reader) complex() (api.Complex, bool) {
	var out api.Complex
	for {
		part := r.compound()
		if len(part) == 0 {
			return api.Complex{}, false
		}
		out.Parts = append(out.Parts, part)
		comb := r.comb()
		if comb == 0 {
			return out, true
		}
		out.Combs = append(out.Combs, comb)
	}
}

// comb: how the next compound selector stands behind the last one; 0, if none is to be there.
func (r *reader) comb() int {
	spaced := r.spaces()
	if r.ahead(0, api.Delim) {
		if number := numberOf(ofComb, r.rest[0].Token.Text); number != 0 {
			r.skip(1)
			r.spaces()
			return number
		}
	}
	if !spaced || len(r.rest) == 0 || r.ahead(0, api.Comma) {
		return 0
	}
	return api.Descendant
}

// compound: a compound selector; nothing, if none is here.
func (r *reader) compound() []api.Simple {
	out := r.tag()
	for {
		more := r.other()
		if len(more) == 0 {
			return out
		}
		out = append(out, more...)
	}
}

// other: what may stand behind a type, by the first way of reading that fits; nothing, if none does.
func (r *reader) other() []api.Simple {
	for _, way := range [...]func() []api.Simple{r.id, r.class, r.attribute, r.state, r.place, r.choice} {
		if l := way(); len(l) > 0 {
			return l
		}
	}
	return nil
}

// tag: a type.
func (r *reader) tag() []api.Simple {
	if !r.ahead(0, api.Ident) && !r.delim(0, "*") {
		return nil
	}
	return r.told(1, api.Simple{Kind: api.Tag, Name: text.Fold(r.rest[0].Token.Text)})
}

// id: a Hash that may be one.
func (r *reader) id() []api.Simple {
	if !r.ahead(0, api.Hash) || !r.rest[0].Token.Flag {
		return nil
	}
	return r.told(1, api.Simple{Kind: api.ID, Name: r.rest[0].Token.Text})
}

// class: a dot and a name.
func (r *reader) class() []api.Simple {
	if !r.delim(0, ".") || !r.ahead(1, api.Ident) {
		return nil
	}
	return r.told(2, api.Simple{Kind: api.Class, Name: r.rest[1].Token.Text})
}

// attribute: a block with an attribute in it.
func (r *reader) attribute() []api.Simple {
	if !r.ahead(0, api.OpenSquare) {
		return nil
	}
	s, ok := inSquare(r.rest[0].Kids)
	if !ok {
		return nil
	}
	return r.told(1, s)
}

// inSquare: what is asked of an attribute.
func inSquare(l []api.Value) (api.Simple, bool) {
	r := reader{rest: l}
	r.spaces()
	if !r.ahead(0, api.Ident) {
		return api.Simple{}, false
	}
	out := api.Simple{Kind: api.AttrSel, Name: text.Fold(r.rest[0].Token.Text)}
	r.skip(1)
	r.spaces()
	if len(r.rest) == 0 {
		return out, true
	}
	out.Op = r.operator()
	r.spaces()
	if out.Op == 0 || !r.ahead(0, api.Ident) && !r.ahead(0, api.String) {
		return api.Simple{}, false
	}
	out.Value = r.rest[0].Token.Text
	r.skip(1)
	r.spaces()
	return out, len(r.rest) == 0
}

// operator: that of an attribute; 0, if none is here.
func (r *reader) operator() int {
	if r.delim(0, "=") {
		r.skip(1)
		return api.Equal
	}
	if !r.ahead(0, api.Delim) || !r.delim(1, "=") {
		return 0
	}
	number := numberOf(ofOperator, r.rest[0].Token.Text)
	r.skip(2)
	return number
}

// state: a colon and a name.
func (r *reader) state() []api.Simple {
	if !r.ahead(0, api.Colon) || !r.ahead(1, api.Ident) {
		return nil
	}
	name := text.Fold(r.rest[1].Token.Text)
	first, last := api.Simple{Kind: api.Nth, B: 1}, api.Simple{Kind: api.NthLast, B: 1}
	switch name {
	case "first-child":
		return r.told(2, first)
	case "last-child":
		return r.told(2, last)
	case "only-child":
		return r.told(2, first, last)
	}
	number := numberOf(ofKind, name)
	if number != api.Root && number != api.Empty {
		return nil
	}
	return r.told(2, api.Simple{Kind: number})
}

// function: the kind that a colon and a function mean; 0, if they are not here, or mean none.
func (r *reader) function() int {
	if !r.ahead(0, api.Colon) || !r.ahead(1, api.Function) {
		return 0
	}
	return numberOf(ofKind, text.Fold(r.rest[1].Token.Text))
}

// place: a colon and a function that says which of many.
func (r *reader) place() []api.Simple {
	number := r.function()
	if number != api.Nth && number != api.NthLast {
		return nil
	}
	a, b, ok := nth.Parse(r.rest[1].Kids)
	if !ok {
		return nil
	}
	return r.told(2, api.Simple{Kind: number, A: a, B: b})
}

// choice: a colon and a function of a list, whose values are kept to be read.
func (r *reader) choice() []api.Simple {
	number := r.function()
	if !listed(number) {
		return nil
	}
	r.kids = append(r.kids, r.rest[1].Kids)
	return r.told(2, api.Simple{Kind: number})
}

// told: simple selectors in new memory; so many values as they are read from are left behind.
func (r *reader) told(values int, l ...api.Simple) []api.Simple {
	r.skip(values)
	return append([]api.Simple(nil), l...)
}

// ahead: does a value of that kind stand at a place of what is left?
func (r *reader) ahead(place, kind int) bool {
	return place < len(r.rest) && r.rest[place].Token.Kind == kind
}

// delim: does that Delim stand at a place of what is left?
func (r *reader) delim(place int, sign string) bool {
	return r.ahead(place, api.Delim) && r.rest[place].Token.Text == sign
}

// skip: so many values are read.
func (r *reader) skip(values int) {
	r.rest = r.rest[values:]
}

// spaces: Spaces are left behind. Was there one?
func (r *reader) spaces() bool {
	was := r.ahead(0, api.Space)
	for r.ahead(0, api.Space) {
		r.skip(1)
	}
	return was
}
