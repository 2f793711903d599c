package parse

import (
	"regexp"
	"strconv"
	"strings"

	"gouache/api"
)

// The oracles are a second reading of the chapter that shares nothing with the program: blocks by places of their ends that are found first, rules and declarations by expressions over a text with one letter for each value.

// pairs: the Close of each kind that opens a block.
var pairs = map[int]int{api.OpenSquare: api.CloseSquare, api.OpenRound: api.CloseRound, api.OpenCurly: api.CloseCurly, api.Function: api.CloseRound}

// oracleEnds: for each token that opens a block the place of its Close, or of the end; 0 for others.
func oracleEnds(l []api.Token) []int {
	ends := make([]int, len(l))
	var open []int
	for i, t := range l {
		if last := len(open) - 1; last >= 0 && pairs[l[open[last]].Kind] == t.Kind {
			ends[open[last]] = i
			open = open[:last]
		}
		if pairs[t.Kind] > 0 {
			ends[i] = len(l)
			open = append(open, i)
		}
	}
	return ends
}

// oracleValues is P3.1.
func oracleValues(l []api.Token) []api.Value {
	ends := oracleEnds(l)
	var between func(from, to, nest int) []api.Value
	between = func(from, to, nest int) []api.Value {
		var out []api.Value
		for i := from; i < to; i++ {
			end := ends[i]
			if end == 0 {
				out = append(out, api.Value{Token: l[i]})
				continue
			}
			if nest < api.MaxNest {
				out = append(out, api.Value{Token: l[i], Kids: between(i+1, end, nest+1)})
			}
			i = end
		}
		return out
	}
	return between(0, len(l), 0)
}

// letters stand for values: k is the Ident important, { and ( are blocks, } is a Close by itself.
var letters = map[byte]api.Token{
	'i': {Kind: api.Ident, Text: "Name"},
	'k': {Kind: api.Ident, Text: "Important"},
	's': {Kind: api.Space},
	'o': {Kind: api.CDO},
	'c': {Kind: api.CDC},
	'@': {Kind: api.At, Text: "x"},
	':': {Kind: api.Colon},
	';': {Kind: api.Semicolon},
	'!': {Kind: api.Delim, Text: "!"},
	'?': {Kind: api.Delim, Text: "?"},
	'{': {Kind: api.OpenCurly},
	'(': {Kind: api.OpenRound},
	'}': {Kind: api.CloseCurly},
}

// spelled: a value for each letter. Each has its place as its Unit, and blocks have Kids, so that an answer shows which of them it has.
func spelled(s string) []api.Value {
	var out []api.Value
	for i := range len(s) {
		v := api.Value{Token: letters[s[i]]}
		v.Token.Unit = strconv.Itoa(i)
		if s[i] == '{' || s[i] == '(' {
			v.Kids = []api.Value{{Token: api.Token{Kind: api.Semicolon, Unit: "in " + v.Token.Unit}}}
		}
		out = append(out, v)
	}
	return out
}

var (
	oRule = regexp.MustCompile(`\A(?:[soc]|@[^;{]*[;{]?|([^{]*)\{|.+)`)
	oItem = regexp.MustCompile(`\A(?:[s;]|@[^;{]*[;{]?|([^;]+))`)
	oDecl = regexp.MustCompile(`\A[ik]s*:s*(.*?)s*(!s*k)?s*\z`)
	oTrim = regexp.MustCompile(`\As*(.*?)s*\z`)
)

// oracleRules is P3.2, of spelled(s).
func oracleRules(s string) []Block {
	var out []Block
	for l := spelled(s); s != ""; {
		m := oRule.FindStringSubmatchIndex(s)
		if m[2] >= 0 {
			out = append(out, Block{Prelude: l[:m[3]], Body: l[m[3]].Kids})
		}
		s, l = s[m[1]:], l[m[1]:]
	}
	return out
}

// oracleDecls is P3.3, of spelled(s).
func oracleDecls(s string) []api.Decl {
	var out []api.Decl
	for l := spelled(s); s != ""; {
		m := oItem.FindStringSubmatchIndex(s)
		if m[2] >= 0 {
			if d := oDecl.FindStringSubmatchIndex(s[:m[3]]); d != nil {
				out = append(out, api.Decl{Name: strings.ToLower(l[0].Token.Text), Value: l[d[2]:d[3]], Important: d[4] >= 0})
			}
		}
		s, l = s[m[1]:], l[m[1]:]
	}
	return out
}

// oracleTrim is P3.3's Trim, of spelled(s).
func oracleTrim(s string) []api.Value {
	m := oTrim.FindStringSubmatchIndex(s)
	return spelled(s)[m[2]:m[3]]
}

// eachSpelling calls f with every text of up to so many of these letters.
func eachSpelling(alphabet string, most int, f func(s string)) {
	var grow func(s string)
	grow = func(s string) {
		f(s)
		if len(s) == most {
			return
		}
		for _, c := range alphabet {
			grow(s + string(c))
		}
	}
	grow("")
}
