package token

import (
	"regexp"
	"strconv"
	"strings"

	"gouache/api"
)

// The oracle reads tokens by expressions, in the document's order: a second reading of P2.1 that shares nothing with the program.
const (
	oBlank  = `[ \t\n]`
	oEscape = `\\(?:[0-9a-fA-F]{1,6}` + oBlank + `?|[^\n0-9a-fA-F]|\z)`
	oStart  = `[a-zA-Z_\x{80}-\x{10FFFF}]`
	oPart   = `[-0-9a-zA-Z_\x{80}-\x{10FFFF}]`
	oMore   = `(?:` + oPart + `|` + oEscape + `)*`
	oName   = `(?:-?(?:` + oStart + `|` + oEscape + `)|--)` + oMore
	oNumber = `[+-]?(?:[0-9]+(?:\.[0-9]+)?|\.[0-9]+)(?:[eE][+-]?[0-9]+)?`
)

func at(expression string) *regexp.Regexp { return regexp.MustCompile(`(?s)\A(?:` + expression + `)`) }

var (
	oComment    = at(`/\*.*?(?:\*/|\z)`)
	oSpace      = at(oBlank + `+`)
	oDouble     = at(`"((?:[^"\\\n]|` + oEscape + `|\\\n)*)("|\z|\n)`)
	oSingle     = at(`'((?:[^'\\\n]|` + oEscape + `|\\\n)*)('|\z|\n)`)
	oHash       = at(`#((?:` + oPart + `|` + oEscape + `)` + oMore + `)`)
	oDimension  = at(`(` + oNumber + `)(` + oName + `)`)
	oPercent    = at(`(` + oNumber + `)%`)
	oPlain      = at(`(` + oNumber + `)`)
	oCDC        = at(`-->`)
	oCDO        = at(`<!--`)
	oFunction   = at(`(` + oName + `)\(`)
	oIdent      = at(`(` + oName + `)`)
	oAt         = at(`@(` + oName + `)`)
	oQuote      = at(oBlank + `*["']`)
	oURL        = at(oBlank + `*((?:[^"'()\\ \t\n\x01-\x08\x0b\x0e-\x1f\x7f]|` + oEscape + `)*)` + oBlank + `*(?:\)|\z)`)
	oBadURL     = at(`(?:` + oEscape + `|[^)])*(?:\)|\z)`)
	oOneEscape  = regexp.MustCompile(`(?s)` + oEscape)
	oOneEscape2 = regexp.MustCompile(`(?s)\\\n|\\\z|` + oEscape)
	oBegins     = at(oName)
)

// plain: what a text with escapes stands for.
func plain(s string) string {
	return oOneEscape.ReplaceAllStringFunc(s, func(e string) string {
		if e == `\` {
			return "\ufffd"
		}
		n, err := strconv.ParseInt(strings.TrimRight(e[1:], " \t\n"), 16, 32)
		if err != nil || e[1] == ' ' || e[1] == '\t' {
			return e[1:]
		}
		if n == 0 {
			return "\ufffd"
		}
		return string(rune(n))
	})
}

// plainString: the same within a string, where more stands for nothing.
func plainString(s string) string {
	return oOneEscape2.ReplaceAllStringFunc(s, func(e string) string {
		if e == `\` || e == "\\\n" {
			return ""
		}
		return plain(e)
	})
}

func oracle(s string) []api.Token {
	var out []api.Token
	for s != "" {
		n, t := oracleOne(s)
		if t.Kind != 0 {
			out = append(out, t)
		}
		s = s[n:]
	}
	return out
}

func oracleOne(s string) (int, api.Token) {
	if m := oComment.FindString(s); m != "" {
		return len(m), api.Token{}
	}
	if m := oSpace.FindString(s); m != "" {
		return len(m), api.Token{Kind: api.Space}
	}
	for _, e := range []*regexp.Regexp{oDouble, oSingle} {
		if m := e.FindStringSubmatch(s); m != nil && m[2] == "\n" {
			return len(m[0]) - 1, api.Token{Kind: api.BadString}
		} else if m != nil {
			return len(m[0]), api.Token{Kind: api.String, Text: plainString(m[1])}
		}
	}
	if m := oHash.FindStringSubmatch(s); m != nil {
		return len(m[0]), api.Token{Kind: api.Hash, Text: plain(m[1]), Flag: oBegins.MatchString(m[1])}
	}
	if n, t := oracleNumber(s); n > 0 {
		return n, t
	}
	if oCDC.MatchString(s) {
		return 3, api.Token{Kind: api.CDC}
	}
	if oCDO.MatchString(s) {
		return 4, api.Token{Kind: api.CDO}
	}
	if n, t := oracleWord(s); n > 0 {
		return n, t
	}
	if m := oAt.FindStringSubmatch(s); m != nil {
		return len(m[0]), api.Token{Kind: api.At, Text: plain(m[1])}
	}
	if i := strings.Index(":16;17,18[19]20(21)22{23}24", s[:1]); s[0] < '0' && i >= 0 || s[0] > '9' && i >= 0 {
		kind, _ := strconv.Atoi(":16;17,18[19]20(21)22{23}24"[i+1 : i+3])
		return 1, api.Token{Kind: kind}
	}
	return 1, api.Token{Kind: api.Delim, Text: s[:1]}
}

func oracleNumber(s string) (int, api.Token) {
	longest := oPlain.FindString(s)
	isWhole := !strings.ContainsAny(longest, ".eE")
	// The number is as long as it can be, whatever a shorter one would leave for a unit.
	if m := oDimension.FindStringSubmatch(s); m != nil && m[1] == longest {
		return len(m[0]), api.Token{Kind: api.Dimension, Text: m[1], Unit: plain(m[2]), Whole: isWhole}
	}
	if m := oPercent.FindStringSubmatch(s); m != nil && m[1] == longest {
		return len(m[0]), api.Token{Kind: api.Percent, Text: m[1], Whole: isWhole}
	}
	return len(longest), api.Token{Kind: api.Number, Text: longest, Whole: isWhole}
}

func oracleWord(s string) (int, api.Token) {
	m := oIdent.FindStringSubmatch(s)
	if m == nil {
		return 0, api.Token{}
	}
	name := plain(m[1])
	behind := s[len(m[0]):]
	if !strings.HasPrefix(behind, "(") {
		return len(m[0]), api.Token{Kind: api.Ident, Text: name}
	}
	n := len(m[0]) + 1
	if strings.ToLower(name) != "url" || oQuote.MatchString(behind[1:]) {
		return n, api.Token{Kind: api.Function, Text: name}
	}
	if u := oURL.FindStringSubmatch(behind[1:]); u != nil {
		return n + len(u[0]), api.Token{Kind: api.URL, Text: plain(u[1])}
	}
	return n + len(oBadURL.FindString(behind[1:])), api.Token{Kind: api.BadURL}
}
