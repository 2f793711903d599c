package sheet

import (
	"gouache/api"
	"gouache/parse"
	"gouache/selector"
	"gouache/text"
	"gouache/token"
)

// blocks: the rules of a text, good or not.
func blocks(s string) ([]parse.Block, api.Errno) {
	if len(s) > api.MaxText {
		return nil, api.ErrText
	}
	return parse.Rules(parse.Values(token.Tokens(text.Runes([]byte(s))))), api.OK
}

// ruleOf: what a block says; false, if it is to be left out.
func ruleOf(b parse.Block) (api.Rule, bool) {
	list, ok := selector.Parse(b.Prelude)
	if !ok || !selector.Good(list) {
		return api.Rule{}, false
	}
	return api.Rule{Selector: list, Decls: parse.Decls(b.Body)}, true
}

// readOne: the rule of a text of one alone.
func readOne(s string) (api.Rule, api.Errno) {
	all, err := blocks(s)
	if err != api.OK {
		return api.Rule{}, err
	}
	if len(all) != 1 {
		return api.Rule{}, api.ErrSyntax
	}
	r, ok := ruleOf(all[0])
	if !ok {
		return api.Rule{}, api.ErrSyntax
	}
	return r, api.OK
}
