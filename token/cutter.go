package token

import (
	"strings"
	"unicode/utf8"

	"gouache/api"
	"gouache/text"
)

// cutter cuts tokens from a text, and stands ahead of what is not cut yet. A way of going on answers false, and stands where it stood, where it does not fit.
type cutter struct {
	from []rune
	at   int
	out  []api.Token
}

// done: is all cut?
func (c *cutter) done() bool {
	return c.at >= len(c.from)
}

// ahead: the character that stands i behind the place; behind the end one that is none of those that are named.
func (c *cutter) ahead(i int) rune {
	if i >= len(c.from)-c.at {
		return -1
	}
	return c.from[c.at+i]
}

// next: the character at the place, which is gone by.
func (c *cutter) next() rune {
	here := c.ahead(0)
	c.at++
	return here
}

// tell: a token that was cut. It answers true, for a way that has told one has fitted.
func (c *cutter) tell(t api.Token) bool {
	c.out = append(c.out, t)
	return true
}

// stands: do these characters stand here?
func (c *cutter) stands(signs string) bool {
	for i, s := range signs {
		if c.ahead(i) != s {
			return false
		}
	}
	return true
}

// escapeBegins: i behind the place.
func (c *cutter) escapeBegins(i int) bool {
	return c.ahead(i) == '\\' && c.ahead(i+1) != newline
}

// nameBegins: i behind the place.
func (c *cutter) nameBegins(i int) bool {
	if c.ahead(i) == '-' {
		return c.ahead(i+1) == '-' || c.wordBegins(i+1)
	}
	return c.wordBegins(i)
}

// wordBegins: a name without a - ahead.
func (c *cutter) wordBegins(i int) bool {
	return text.Start(c.ahead(i)) || c.escapeBegins(i)
}

// numberBegins: at the place.
func (c *cutter) numberBegins() bool {
	i := 0
	if c.signed(i) {
		i++
	}
	return text.Digit(c.ahead(i)) || c.dotBegins(i)
}

// dotBegins: a dot and a digit.
func (c *cutter) dotBegins(i int) bool {
	return c.ahead(i) == '.' && text.Digit(c.ahead(i+1))
}

// signed: a + or -.
func (c *cutter) signed(i int) bool {
	return c.ahead(i) == '+' || c.ahead(i) == '-'
}

// escape: the character that the escape at the place stands for.
func (c *cutter) escape() rune {
	c.next()
	if c.done() {
		return instead
	}
	if text.Hex(c.ahead(0)) < 0 {
		return c.next()
	}
	n := 0
	for digits := 0; digits < 6 && text.Hex(c.ahead(0)) >= 0; digits++ {
		n = n*16 + text.Hex(c.next())
	}
	if text.Blank(c.ahead(0)) {
		c.next()
	}
	return numbered(n)
}

// numbered: the character of a number of at most six digits.
func numbered(n int) rune {
	c := rune(n)
	if c == 0 || !utf8.ValidRune(c) {
		return instead
	}
	return c
}

// name: the name at the place, as far as it goes on.
func (c *cutter) name() string {
	var w writer
	for {
		switch {
		case text.Part(c.ahead(0)):
			w.WriteRune(c.next())
		case c.escapeBegins(0):
			w.WriteRune(c.escape())
		default:
			return w.String()
		}
	}
}

// blanks: are gone by.
func (c *cutter) blanks() {
	for text.Blank(c.ahead(0)) {
		c.next()
	}
}

// comment: a way of going on that tells nothing.
func (c *cutter) comment() bool {
	if !c.stands("/*") {
		return false
	}
	for c.at += 2; !c.done(); c.at++ {
		if c.stands("*/") {
			c.at += 2
			break
		}
	}
	return true
}

// space: a way of going on.
func (c *cutter) space() bool {
	if !text.Blank(c.ahead(0)) {
		return false
	}
	c.blanks()
	return c.tell(api.Token{Kind: api.Space})
}

// quoted: a way of going on.
func (c *cutter) quoted() bool {
	end := c.ahead(0)
	if end != '"' && end != '\'' {
		return false
	}
	c.next()
	var w writer
	for !c.done() && c.ahead(0) != end {
		switch {
		case c.ahead(0) == newline:
			return c.tell(api.Token{Kind: api.BadString})
		case c.ahead(0) == '\\':
			c.quotedEscape(&w)
		default:
			w.WriteRune(c.next())
		}
	}
	c.at = min(c.at+1, len(c.from))
	return c.tell(api.Token{Kind: api.String, Text: w.String()})
}

// quotedEscape: a \ in a string. Unlike elsewhere it stands for nothing at the end, and may have a newline behind it.
func (c *cutter) quotedEscape(w *writer) {
	switch {
	case !c.escapeBegins(0):
		c.at += 2
	case c.at+1 == len(c.from):
		c.next()
	default:
		w.WriteRune(c.escape())
	}
}

// hash: a way of going on.
func (c *cutter) hash() bool {
	if c.ahead(0) != '#' || !text.Part(c.ahead(1)) && !c.escapeBegins(1) {
		return false
	}
	c.next()
	flag := c.nameBegins(0)
	return c.tell(api.Token{Kind: api.Hash, Text: c.name(), Flag: flag})
}

// number: a way of going on.
func (c *cutter) number() bool {
	if !c.numberBegins() {
		return false
	}
	first := c.at
	whole := c.numeral()
	t := api.Token{Kind: api.Number, Text: string(c.from[first:c.at]), Whole: whole}
	switch {
	case c.nameBegins(0):
		t.Kind = api.Dimension
		t.Unit = c.name()
	case c.ahead(0) == '%':
		c.next()
		t.Kind = api.Percent
	}
	return c.tell(t)
}

// numeral: a number's characters are gone by; is it whole?
func (c *cutter) numeral() bool {
	if c.signed(0) {
		c.next()
	}
	c.digits()
	whole := true
	if c.dotBegins(0) {
		whole = false
		c.next()
		c.digits()
	}
	if i := c.exponent(); i > 0 {
		whole = false
		c.at += i
		c.digits()
	}
	return whole
}

// digits: are gone by.
func (c *cutter) digits() {
	for text.Digit(c.ahead(0)) {
		c.next()
	}
}

// exponent: how many characters stand ahead of an exponent's digits; 0, if there is none.
func (c *cutter) exponent() int {
	if c.ahead(0) != 'e' && c.ahead(0) != 'E' {
		return 0
	}
	i := 1
	if c.signed(i) {
		i++
	}
	if !text.Digit(c.ahead(i)) {
		return 0
	}
	return i
}

// markup: a way of going on.
func (c *cutter) markup() bool {
	switch {
	case c.stands("-->"):
		c.at += 3
		return c.tell(api.Token{Kind: api.CDC})
	case c.stands("<!--"):
		c.at += 4
		return c.tell(api.Token{Kind: api.CDO})
	}
	return false
}

// word: a way of going on.
func (c *cutter) word() bool {
	if !c.nameBegins(0) {
		return false
	}
	t := api.Token{Kind: api.Ident, Text: c.name()}
	if c.ahead(0) == '(' {
		c.next()
		if text.Fold(t.Text) == "url" && !c.quoteBehindBlanks() {
			return c.url()
		}
		t.Kind = api.Function
	}
	return c.tell(t)
}

// quoteBehindBlanks: does what stands here begin, but for Blanks, with a string?
func (c *cutter) quoteBehindBlanks() bool {
	i := 0
	for text.Blank(c.ahead(i)) {
		i++
	}
	return c.ahead(i) == '"' || c.ahead(i) == '\''
}

// url: what stands behind the ( of one.
func (c *cutter) url() bool {
	c.blanks()
	var w writer
	for c.urlGoesOn() {
		if c.escapeBegins(0) {
			w.WriteRune(c.escape())
		} else {
			w.WriteRune(c.next())
		}
	}
	c.blanks()
	if !c.done() && c.ahead(0) != ')' {
		return c.badURL()
	}
	c.at = min(c.at+1, len(c.from))
	return c.tell(api.Token{Kind: api.URL, Text: w.String()})
}

// urlGoesOn: may the character at the place, or the escape, stand in a URL?
func (c *cutter) urlGoesOn() bool {
	here := c.ahead(0)
	switch {
	case c.done(), text.Blank(here), urlControl(here):
		return false
	case here == '\\':
		return c.escapeBegins(0)
	}
	return here != '"' && here != '\'' && here != '(' && here != ')'
}

// urlControl: a character that can't be seen and may not stand in a URL.
func urlControl(r rune) bool {
	return 0x01 <= r && r <= 0x08 || r == 0x0b || 0x0e <= r && r <= 0x1f || r == rubout
}

// badURL: what is left of a URL that is none.
func (c *cutter) badURL() bool {
	for !c.done() && c.ahead(0) != ')' {
		if c.escapeBegins(0) {
			c.escape()
		} else {
			c.next()
		}
	}
	c.at = min(c.at+1, len(c.from))
	return c.tell(api.Token{Kind: api.BadURL})
}

// keyword: a way of going on.
func (c *cutter) keyword() bool {
	if c.ahead(0) != '@' || !c.nameBegins(1) {
		return false
	}
	c.next()
	return c.tell(api.Token{Kind: api.At, Text: c.name()})
}

// single: a way of going on that always fits.
func (c *cutter) single() bool {
	here := c.next()
	if i := strings.IndexRune(signs, here); i >= 0 {
		return c.tell(api.Token{Kind: api.Colon + i})
	}
	return c.tell(api.Token{Kind: api.Delim, Text: string(here)})
}
