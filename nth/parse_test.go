package nth

import (
	"fmt"
	"math"
	"math/rand"
	"strings"
	"testing"

	"gouache/api"
	"gouache/parse"
	"gouache/text"
	"gouache/token"
)

// values: a text as the layers below read it.
func values(s string) []api.Value {
	return parse.Values(token.Tokens(text.Runes([]byte(s))))
}

// one: a list of values that are no blocks.
func one(l ...api.Token) []api.Value {
	var out []api.Value
	for _, t := range l {
		out = append(out, api.Value{Token: t})
	}
	return out
}

func ident(s string) api.Token  { return api.Token{Kind: api.Ident, Text: s} }
func number(s string) api.Token { return api.Token{Kind: api.Number, Text: s, Whole: true} }
func dimension(s, u string) api.Token {
	return api.Token{Kind: api.Dimension, Text: s, Unit: u, Whole: true}
}
func delim(s string) api.Token { return api.Token{Kind: api.Delim, Text: s} }

var space = api.Token{Kind: api.Space}

func checkParse(t *testing.T, l []api.Value, a, b int, ok bool) {
	t.Helper()
	if x, y, z := Parse(l); x != a || y != b || z != ok {
		t.Errorf("Parse of %+v: %d, %d, %t, want %d, %d, %t", l, x, y, z, a, b, ok)
	}
}

func TestParseReads(t *testing.T) {
	for _, c := range []struct {
		s    string
		a, b int
	}{
		{"2n+1", 2, 1}, {"-n + 3", -1, 3}, {"+5", 0, 5},
		{"even", 2, 0}, {"odd", 2, 1}, {"EVEN", 2, 0}, {"ODD", 2, 1}, {"eVeN", 2, 0}, {"oDd", 2, 1}, {`\65 ven`, 2, 0},
		{"0", 0, 0}, {"5", 0, 5}, {"-5", 0, -5}, {"+0", 0, 0}, {"-0", 0, 0}, {"007", 0, 7}, {"12345", 0, 12345},
		{"n", 1, 0}, {"N", 1, 0}, {"+n", 1, 0}, {"-n", -1, 0}, {"-N", -1, 0}, {"+N", 1, 0}, {"0n", 0, 0}, {"-0n", 0, 0}, {"+7n", 7, 0}, {"-7N", -7, 0}, {"012n", 12, 0},
		{"n+1", 1, 1}, {"n-1", 1, -1}, {"-n-1", -1, -1}, {"+n-1", 1, -1}, {"+n+1", 1, 1}, {"N-12", 1, -12}, {"n-0", 1, 0}, {"n+007", 1, 7},
		{"3n+4", 3, 4}, {"3n-4", 3, -4}, {"-3N-4", -3, -4}, {"+3n+4", 3, 4}, {"0n+4", 0, 4}, {"0n-4", 0, -4},
		{"3n +4", 3, 4}, {"3n+ 4", 3, 4}, {"3n + 4", 3, 4}, {"3n -4", 3, -4}, {"3n- 4", 3, -4}, {"3n - 4", 3, -4},
		{"n +4", 1, 4}, {"n+ 4", 1, 4}, {"n + 4", 1, 4}, {"-n -4", -1, -4}, {"-n- 4", -1, -4}, {"-n - 4", -1, -4}, {"+n - 4", 1, -4},
		{" 3n+4 ", 3, 4}, {"\t\n even \n", 2, 0}, {"  5  ", 0, 5}, {" /**/ /**/ odd /**/ /**/ ", 2, 1},
		{"2n/**/+/**/1", 2, 1}, {"+/**/n", 1, 0}, {"-/**/5", 0, -5}, {"ev/**/en", 2, 0}, {"1/**/2", 0, 12}, {"2/**/n", 2, 0}, {"2n\t\n +\n\t1", 2, 1},
	} {
		checkParse(t, values(c.s), c.a, c.b, true)
	}
}

func TestParseRefuses(t *testing.T) {
	for _, s := range []string{
		"", " ", "/**/", "e", "eve", "evens", "even even", "even odd", "+even", "-odd", "even+1", "2even", "even 1", "odd/**/odd", "e ven", "od d", "ınn",
		"+", "-", "+ 5", "- 5", "++5", "+-5", "--5", "5+", "5-", "5 5", "5 +5", "5+5", "5/**/+5", "1 n",
		"+ n", "- n", "+ 2n", "- 2n", "++n", "+-n", "--n", "-+n", "+/**/+2n", "-/**/-2n", "2 n", "- /**/n",
		"n 5", "n5", "2n5", "2n 5", "n1+1", "nn", "n n", "2nn", "2n n", "n2", "an", "na", "2na", "2an", "m", "2m+1", "-m",
		"n+", "n-", "n +", "n -", "2n+", "2n-", "2n + ", "2n - ", "-n-", "n+ +1", "n++1", "n+-1", "n-+1", "n--1", "n- -1", "2n + +1", "2n + -1", "2n+/**/+1", "n--", "n-a", "n-1a", "n-1 1", "n-1-1", "n+1 1", "n+1+1", "n+1n", "n-1n", "n+n", "n+a", "2n+1e1",
		"2n /**/ + 1", "2n + /**/ 1", "2n /**/ +1", "2n+ /**/ 1", "n /**/ - 1", "n - /**/ 1", "+ /**/ 5",
		"1.0", "1e1", "1.5", "-.5", "1.0n", "1.5n", "1e1n", "1.0n+1", "n+1.0", "n+1.5", "2n+1%", "5%", "5px", "5n%", "n*2", "2*n", "n,1", "n;", "n:", "n!", "n/1", "n~1",
		"(n)", "n(1)", "[n]", "{n}", "n(", "even(", "#n", "#1", "@n", "'n'", "\"even\"", "'n", "url(n)", "url(n n)", "<!--", "-->", "n)", ")", "]", "}", "U+1", "٣", "²n", "２n", "ＥＶＥＮ", "ｎ",
	} {
		checkParse(t, values(s), 0, 0, false)
	}
}

func TestParseAtTheBounds(t *testing.T) {
	long := strings.Repeat("9", 70000)
	zeros := strings.Repeat("0", 70000)
	for _, c := range []struct {
		digits string
		n      int
	}{
		{"999999", 999999}, {"1000000", 1000000}, {"1000001", 1000000}, {"999999999", 1000000}, {"0999999", 999999}, {"00001000001", 1000000}, {"10000000", 1000000}, {"1000009", 1000000}, {"2000000", 1000000}, {"9999990", 1000000},
		{"2147483647", 1000000}, {"2147483648", 1000000}, {"4294967296", 1000000}, {"4294967297", 1000000}, {"9223372036854775807", 1000000}, {"9223372036854775808", 1000000}, {"18446744073709551616", 1000000}, {"18446744073709551617", 1000000}, {"340282366920938463463374607431768211457", 1000000},
		{long, 1000000}, {zeros, 0}, {zeros + "12", 12}, {zeros + "1000000", 1000000}, {zeros + long, 1000000}, {"1" + zeros, 1000000},
	} {
		checkParse(t, one(number(c.digits)), 0, c.n, true)
		checkParse(t, one(number("+"+c.digits)), 0, c.n, true)
		checkParse(t, one(number("-"+c.digits)), 0, -c.n, true)
		checkParse(t, one(dimension(c.digits, "n")), c.n, 0, true)
		checkParse(t, one(dimension("-"+c.digits, "n-"+c.digits)), -c.n, -c.n, true)
		checkParse(t, one(ident("n"), number("+"+c.digits)), 1, c.n, true)
		checkParse(t, one(ident("-n-"+c.digits)), -1, -c.n, true)
		checkParse(t, values("+"+c.digits+"n - "+c.digits), c.n, -c.n, true)
		checkParse(t, one(dimension(c.digits, "n"), number(c.digits)), 0, 0, false)
	}
}

// TestParseTakesWhatIsWritten: where a token ends means nothing, also of tokens that no text has.
func TestParseTakesWhatIsWritten(t *testing.T) {
	for _, c := range []struct {
		l    []api.Value
		a, b int
	}{
		{one(ident("2n+1")), 2, 1}, {one(ident(" 2n + 1 ")), 2, 1}, {one(ident(" "), ident("EV"), ident(""), ident("EN"), ident("  ")), 2, 0},
		{one(number("even")), 2, 0}, {one(number(""), number("-"), number("5")), 0, -5}, {one(dimension("", ""), dimension("+", "n -1")), 1, -1},
		{one(dimension("od", "d")), 2, 1}, {one(dimension("1", "2")), 0, 12}, {one(number("1"), ident("n"), delim("-"), number("1")), 1, -1},
		{one(dimension("1", "n"), ident(" "), delim("+"), ident(" "), number("2")), 1, 2}, {one(space, space, ident("n"), space, space), 1, 0},
		{one(api.Token{Kind: api.Space, Text: "x", Unit: "y", Whole: true, Flag: true}, ident("n")), 1, 0},
		{one(api.Token{Kind: api.Ident, Text: "n", Unit: "n", Whole: true, Flag: true}), 1, 0},
		{one(api.Token{Kind: api.Number, Text: "4", Unit: "n", Whole: true, Flag: true}), 0, 4},
		{one(ident("n"), api.Token{Kind: api.Delim, Text: "+", Unit: "1", Whole: true, Flag: true}, number("4")), 1, 4},
		{[]api.Value{{Token: ident("odd"), Kids: one(ident("even"), delim("*"))}, {Token: space, Kids: one(space)}}, 2, 1},
		{[]api.Value{{Token: dimension("3", "n"), Kids: one(number("7"))}, {Token: delim("-"), Kids: one(space)}, {Token: number("1"), Kids: one(space)}}, 3, -1},
	} {
		checkParse(t, c.l, c.a, c.b, true)
	}
}

func TestParseOfWrongTokens(t *testing.T) {
	checkParse(t, nil, 0, 0, false)
	checkParse(t, []api.Value{}, 0, 0, false)
	checkParse(t, []api.Value{{}}, 0, 0, false)
	for _, l := range [][]api.Value{
		one(ident("")), one(number("")), one(dimension("", "")), one(ident("\xff")), one(ident("n\xff")), one(number("1\xff")), one(ident("n\x00")), one(ident("\tn")), one(ident("n\n")), one(ident("n\t+\t1")), one(ident("\u00a0n")), one(ident("\u212a")),
		one(delim("")), one(delim("n")), one(delim("even")), one(delim("+n")), one(delim("5")), one(delim(" ")), one(delim("+"), delim("+"), ident("n")), one(ident("n"), delim("+ "), number("1")), one(ident("n"), delim("--"), number("1")), one(ident("n"), delim("−"), number("1")),
		{{Token: api.Token{Kind: api.Number, Text: "1"}}}, {{Token: api.Token{Kind: api.Dimension, Text: "1", Unit: "n"}}}, {{Token: ident("n")}, {Token: api.Token{Kind: api.Number, Text: "+1"}}},
		one(api.Token{Kind: api.Number}, ident("n")), one(ident("n"), api.Token{Kind: api.Dimension}), one(ident("n"), delim("")),
		{{Token: api.Token{Kind: api.OpenRound}, Kids: one(ident("n"))}}, {{Token: api.Token{Kind: api.Function, Text: "n"}}},
	} {
		checkParse(t, l, 0, 0, false)
	}
	// By itself, ahead of what could be read, and behind it.
	for _, kind := range []int{math.MinInt, -1, 0, 2, 3, 4, 5, 6, 7, 8, 11, 14, 15, 16, 17, 18, 19, 20, 21, 22, 23, 24, 25, math.MaxInt} {
		for _, s := range []string{"", "n", "even", "5", "+", " "} {
			odd := api.Token{Kind: kind, Text: s, Unit: "n", Whole: true, Flag: true}
			checkParse(t, one(odd), 0, 0, false)
			checkParse(t, one(odd, ident("n")), 0, 0, false)
			checkParse(t, one(ident("n"), odd), 0, 0, false)
			checkParse(t, one(ident("n"), odd, number("+1")), 0, 0, false)
			checkParse(t, one(ident("even"), space, odd), 0, 0, false)
		}
	}
}

func agree(t *testing.T, l []api.Value) bool {
	t.Helper()
	a, b, ok := Parse(l)
	x, y, z := oParse(l)
	if a != x || b != y || ok != z {
		t.Errorf("Parse of %+v: %d, %d, %t, want %d, %d, %t", l, a, b, ok, x, y, z)
	}
	return ok
}

// every: calls do for each list of up to so many of some.
func every[T any](some []T, most int, do func(l []T)) {
	var more func(l []T)
	more = func(l []T) {
		do(l)
		if len(l) == most {
			return
		}
		for _, x := range some {
			more(append(l, x))
		}
	}
	more(make([]T, 0, most))
}

func TestParseOfAllShortTexts(t *testing.T) {
	good := 0
	every([]byte("+- nN05"), 7, func(l []byte) {
		if agree(t, one(ident(string(l)))) {
			good++
		}
	})
	every([]byte("evnodEVND "), 5, func(l []byte) {
		if agree(t, one(ident(string(l)))) {
			good++
		}
	})
	if good < 4000 {
		t.Error("too few texts could be read:", good)
	}
}

func TestParseOfAllShortLists(t *testing.T) {
	some := one(ident("n"), ident("-n"), ident("N-1"), ident("-n-"), ident("even"), ident(""), number("1"), number("+2"), number("-3"), dimension("4", "n"), dimension("-5", "n-"), dimension("+6", "N-7"), dimension("8", "px"), delim("+"), delim("-"), delim("*"), space, api.Token{Kind: api.Number, Text: "1"}, api.Token{Kind: api.Comma})
	good := 0
	every(some, 4, func(l []api.Value) {
		if agree(t, l) {
			good++
		}
	})
	if good < 1000 {
		t.Error("too few lists could be read:", good)
	}
}

func TestParseByChance(t *testing.T) {
	r := rand.New(rand.NewSource(4))
	parts := []string{"+", "-", " ", "n", "N", "1", "20", "999999", "1000001", "n-", "n+", "-n", "even", "odd", "/**/", "\\6e ", "\n", "e", ".5", "(", ")"}
	good := 0
	for range 200000 {
		s := ""
		for range 1 + r.Intn(7) {
			s += parts[r.Intn(len(parts))]
		}
		if agree(t, values(s)) {
			good++
		}
	}
	if good < 10000 {
		t.Error("too few texts could be read:", good)
	}
}

func TestParseChangesNothing(t *testing.T) {
	room := one(space, dimension("+3", "N"), space, delim("-"), space, number("4"), space, ident("room"), ident("room"))
	room[1].Kids = one(ident("kid"), ident("kid"))[:1:2]
	before := fmt.Sprintf("%+v%+v", room, room[1].Kids[:2])
	for range 2 {
		checkParse(t, room[:7], 3, -4, true)
		checkParse(t, room[:8], 0, 0, false)
	}
	if fmt.Sprintf("%+v%+v", room, room[1].Kids[:2]) != before {
		t.Error("Parse has changed its argument or the room behind it")
	}
}

// TestParseOfVeryMuch: lists and texts far beyond what is written by hand end soon.
func TestParseOfVeryMuch(t *testing.T) {
	const many = 1 << 20
	spaces := make([]api.Value, many)
	digits := make([]api.Value, many)
	for i := range many {
		spaces[i].Token = space
		digits[i].Token = number("1")
	}
	checkParse(t, spaces[:1], 0, 0, false)
	if a, b, ok := Parse(spaces); a != 0 || b != 0 || ok {
		t.Error("Spaces alone are read")
	}
	spaces[many/2].Token = ident("odd")
	if a, b, ok := Parse(spaces); a != 2 || b != 1 || !ok {
		t.Error("odd within many Spaces is not read")
	}
	if a, b, ok := Parse(digits); a != 0 || b != 1000000 || !ok {
		t.Error("a number of many tokens is not read")
	}
	digits[0].Token = delim("-")
	digits[many/2].Token = ident("n-")
	if a, b, ok := Parse(digits); a != -1000000 || b != -1000000 || !ok {
		t.Error("A n B of many tokens is not read")
	}
}
