package selector

import (
	"regexp"
	"strings"
	"testing"

	"gouache/api"
)

// A value is spelled by one letter, so that what a list may be is one expression, and what is read is written by others.
func spelled(s string) []api.Value {
	delim := func(s string) api.Value { return api.Value{Token: api.Token{Kind: api.Delim, Text: s}} }
	ident := func(s string) api.Value { return api.Value{Token: api.Token{Kind: api.Ident, Text: s}} }
	block := func(kind int, s string, kids []api.Value) api.Value {
		return api.Value{Token: api.Token{Kind: kind, Text: s}, Kids: kids}
	}
	var out []api.Value
	for _, c := range s {
		switch c {
		case 'i':
			out = append(out, ident("Q"))
		case 'r':
			out = append(out, ident("ROOT"))
		case 'o':
			out = append(out, ident("only-child"))
		case 'h':
			out = append(out, api.Value{Token: api.Token{Kind: api.Hash, Text: "H", Flag: true}})
		case 'x':
			out = append(out, api.Value{Token: api.Token{Kind: api.Hash, Text: "1"}})
		case 's':
			out = append(out, api.Value{Token: api.Token{Kind: api.Space}})
		case 'c':
			out = append(out, api.Value{Token: api.Token{Kind: api.Comma}})
		case ':':
			out = append(out, api.Value{Token: api.Token{Kind: api.Colon}})
		case 'q':
			out = append(out, api.Value{Token: api.Token{Kind: api.String, Text: "V"}})
		case 'g':
			out = append(out, block(api.OpenSquare, "", values("[a]")[0].Kids))
		case 'b':
			out = append(out, block(api.OpenSquare, "", nil))
		case 'n':
			out = append(out, block(api.Function, "Not", values("p,p")))
		case 'm':
			out = append(out, block(api.Function, "not", values(">p")))
		case 'k':
			out = append(out, block(api.Function, "nth-child", values("2n+1")))
		case 'l':
			out = append(out, block(api.Function, "nth-child", nil))
		default:
			out = append(out, delim(string(c)))
		}
	}
	return out
}

const (
	oCompound = `(?:[iro*](?:h|\.[iro]|g|:[ronk])*|(?:h|\.[iro]|g|:[ronk])+)`
	oComplex  = oCompound + `(?:(?:s*[>+~]s*|s+)` + oCompound + `)*`
)

var (
	oList   = regexp.MustCompile(`\As*` + oComplex + `(?:s*cs*` + oComplex + `)*s*\z`)
	oEnds   = regexp.MustCompile(`\As+|s+\z`)
	oCommas = regexp.MustCompile(`s*cs*`)
	oCombs  = regexp.MustCompile(`s*([>+~])s*|s+`)
	oSimple = regexp.MustCompile(`\.?[iro]|\*|h|g|:[ronk]`)
	oSquare = regexp.MustCompile(`\As*([ir])s*(?:([~|^$*]?)=s*([irq])s*)?\z`)
)

// oracleList is what P5.1 says of spelled(s), as show writes it.
func oracleList(s string) string {
	if !oList.MatchString(s) {
		return "none"
	}
	var out []string
	for _, c := range oCommas.Split(oEnds.ReplaceAllString(s, ""), -1) {
		c = oCombs.ReplaceAllStringFunc(c, func(sign string) string {
			return map[string]string{"": " 1 ", ">": " 2 ", "+": " 3 ", "~": " 4 "}[strings.Trim(sign, "s")]
		})
		out = append(out, oSimple.ReplaceAllStringFunc(c, func(one string) string {
			return map[string]string{"i": "T(q)", "r": "T(root)", "o": "T(only-child)", "*": "T(*)", "h": "I(H)", ".i": "C(Q)", ".r": "C(ROOT)", ".o": "C(only-child)", "g": "A(a 0 )", ":r": "R", ":o": "n(0,1)l(0,1)", ":n": "N[T(p) | T(p)]", ":k": "n(2,1)"}[one]
		}))
	}
	return strings.Join(out, " | ")
}

// oracleSquare is what P5.1 says of a block of OpenSquare with spelled(s) in it.
func oracleSquare(s string) string {
	m := oSquare.FindStringSubmatch(s)
	if m == nil {
		return "none"
	}
	name := map[string]string{"i": "q", "r": "root"}[m[1]]
	if m[3] == "" {
		return "A(" + name + " 0 )"
	}
	op := map[string]string{"": "1", "~": "2", "|": "3", "^": "4", "$": "5", "*": "6"}[m[2]]
	return "A(" + name + " " + op + " " + map[string]string{"i": "Q", "r": "ROOT", "q": "V"}[m[3]] + ")"
}

// eachSpelling calls f with every text of up to so many of these letters.
func eachSpelling(alphabet string, most int, f func(s string)) {
	var grow func(s string)
	grow = func(s string) {
		f(s)
		if len(s) == most {
			return
		}
		for _, c := range alphabet {
			grow(s + string(c))
		}
	}
	grow("")
}

// TestAgainstOracle goes over all lists of up to three values of all kinds that matter, of up to four of most of them, and longer ones of fewer; and over squares likewise.
func TestAgainstOracle(t *testing.T) {
	list := func(s string) {
		if got, want := read(spelled(s)), oracleList(s); got != want {
			t.Fatalf("Parse of %q: %q, want %q", s, got, want)
		}
	}
	eachSpelling("iroxh*.sc>+~:gbnmklq=", 3, list)
	eachSpelling("irh*.sc>~:gnk", 4, list)
	eachSpelling("i.sc>", 7, list)
	eachSpelling("r*:s+c", 6, list)
	eachSpelling("i:nhs", 6, list)
	square := func(s string) {
		l := []api.Value{{Token: api.Token{Kind: api.OpenSquare}, Kids: spelled(s)}}
		if got, want := read(l), oracleSquare(s); got != want {
			t.Fatalf("Parse of a square of %q: %q, want %q", s, got, want)
		}
	}
	eachSpelling("irqs=~|^$*.>:cghnk", 4, square)
	eachSpelling("iqs=~*", 6, square)
	eachSpelling("is=^", 8, square)
}
