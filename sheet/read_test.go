package sheet

import (
	"fmt"
	"math/rand"
	"strings"
	"testing"

	"gouache/api"
	"gouache/parse"
	"gouache/selector"
	"gouache/text"
	"gouache/token"
)

// nots: a selector within so many others.
func nots(many int) string {
	return strings.Repeat(":not(", many) + "a" + strings.Repeat(")", many)
}

func TestRead(t *testing.T) {
	for _, one := range [][2]string{
		{"", ""}, {" ", ""}, {"a", ""}, {"{}", ""}, {"{a:b}", ""}, {"}", ""},
		{"a{}", "a{}"}, {"a{b:c}", "a{b:c}"}, {"a{} b{}", "a{} b{}"}, {"b{} a{} b{}", "b{} a{} b{}"},
		{"a{x:y} b{} 1{}", "a{x:y} b{}"}, {"1{} a{} 2{x:y} b{} {}", "a{} b{}"}, {"1 a{} b{}", "b{}"}, {"a,{} b{}", "b{}"}, {"a{}, b{} c{}", "a{} c{}"},
		{"@x; a{} @y{b{}} c{}", "a{} c{}"}, {"@x a{} b{}", "b{}"}, {"a @x; b{} c{}", "c{}"}, {"<!-- a{} --> b{}", "a{} b{}"},
		{"a{b:c;d:e!important;f;g:;H:I}", "a{b:c;d:e!important;g:;h:I}"}, {"a{b:c;b:d}", "a{b:c;b:d}"}, {"a{;; b : c d ; }", "a{b:c d}"}, {"a{1:b;c d:e;f:g}", "a{f:g}"},
		{"a{@x;b:c;@y{d:e}f:g}", "a{b:c;f:g}"}, {"a{b:c", "a{b:c}"}, {"a{b:(c[d{e", "a{b:(c[d{e}])}"}, {"a{b{c:d}} e{}", "a{} e{}"}, {"a{}} b{} c{}", "a{} c{}"},
		{"A.B#C[D='e'],*>f+g~h i:ROOT{}", "a.B#C[d=\"e\"], * > f + g ~ h i:root{}"},
		{":not(a,b):is(c):where(d e):first-child:only-child:nth-child(2n+1){}", ":not(a, b):is(c):where(d e):nth-child(1):nth-child(1):nth-last-child(1):nth-child(odd){}"},
		{"a:hover{} b::before{} c[d=]{} #1{} .{} e{}", "e{}"}, {"a{}b\\{{}", "a{} b\\{{}"}, {"a{b:\"}\"} c{}", "a{b:\"}\"} c{}"}, {"a{b:url(}) } c{}", "a{b:} c{}"},
		{"a/**/{}/*b{}*/c{}", "a{} c{}"}, {"a\r\nb{}\fc{}", "a b{} c{}"}, {"\x00{}\xff{}", "\ufffd{} \ufffd{}"}, {"é{ü:ö}", "é{ü:ö}"}, {"\\0 {}\\d800 {}", "\ufffd{} \ufffd{}"},
	} {
		is(t, fmt.Sprintf("Read(%q)", one[0]), read(t, one[0]), one[1])
	}
}

// TestReadFields: a rule field by field, with no call that writes it.
func TestReadFields(t *testing.T) {
	l, err := Read("a>.b{c:1px (d)!important}e:nth-child(odd){}")
	tag := func(s string) api.Simple { return api.Simple{Kind: api.Tag, Name: s} }
	want := []api.Rule{
		{Selector: []api.Complex{{Parts: [][]api.Simple{{tag("a")}, {{Kind: api.Class, Name: "b"}}}, Combs: []int{api.Child}}},
			Decls: []api.Decl{{Name: "c", Important: true, Value: []api.Value{
				{Token: api.Token{Kind: api.Dimension, Text: "1", Unit: "px", Whole: true}}, {Token: api.Token{Kind: api.Space}},
				{Token: api.Token{Kind: api.OpenRound}, Kids: []api.Value{{Token: api.Token{Kind: api.Ident, Text: "d"}}}}}}}},
		{Selector: []api.Complex{{Parts: [][]api.Simple{{tag("e"), {Kind: api.Nth, A: 2, B: 1}}}}}},
	}
	is(t, "the error", err, api.OK)
	is(t, "the rules", fmt.Sprintf("%+v", l), fmt.Sprintf("%+v", want))
	p := New().add(t, api.User, "e{}").add(t, api.Author, "a>.b{c:1px (d)!important}e:nth-child(odd){}").All()
	is(t, "at their places", fmt.Sprintf("%+v", p[1:]), fmt.Sprintf("%+v", []Placed{{2, api.Author, 0, want[0]}, {2, api.Author, 1, want[1]}}))
}

// TestReadLength: bytes are counted, not characters.
func TestReadLength(t *testing.T) {
	for _, one := range []struct {
		text  string
		rules int
	}{
		{strings.Repeat("a{}", 21845) + " ", 21845}, {strings.Repeat(" ", 65533) + "a{}", 1}, {strings.Repeat("é", 32767) + "{}", 1},
		{"a{}" + strings.Repeat("{", 65533), 1}, {"a{" + strings.Repeat("(", 65534), 1}, {strings.Repeat(":is(", 16384), 0}, {strings.Repeat("a,", 32766) + "b{}", 1}, {strings.Repeat("a>", 32766) + "b{}", 1},
		{strings.Repeat("[a]", 21844) + "{}", 1}, {"a{" + strings.Repeat("b:;", 21844), 1}, {strings.Repeat("\xff", 65534) + "{}", 1}, {strings.Repeat("@", 65534) + "{}", 0},
	} {
		text := one.text + strings.Repeat(" ", api.MaxText-len(one.text))
		l, err := Read(text)
		is(t, fmt.Sprintf("%.20q, of just so many bytes", text), []any{len(l), err}, []any{one.rules, api.OK})
		l, err = Read(text + " ")
		is(t, fmt.Sprintf("%.20q, and one more", text), []any{len(l), err}, []any{0, api.ErrText})
	}
	l, err := Read(strings.Repeat("a{}", 1<<20))
	is(t, "far too long", []any{len(l), err}, []any{0, api.ErrText})
}

// TestReadNested: Parse reads lists that are nested too deep for Good; values may go deeper.
func TestReadNested(t *testing.T) {
	for many := range 70 {
		list, ok := selector.Parse(values(nots(many)))
		if want := many <= 64; ok != want || many < 32 != selector.Good(list) {
			t.Fatalf("%d: Parse %v, Good %v", many, ok, selector.Good(list))
		}
		want := "b{}"
		if many < 32 {
			want = nots(many) + "{} b{}"
		}
		is(t, fmt.Sprint("a selector within ", many), read(t, nots(many)+"{}b{}"), want)
		in := min(many, 63)
		value := strings.Repeat("(", in) + map[bool]string{true: "c"}[many < 64] + strings.Repeat(")", in)
		is(t, fmt.Sprint("a value within ", many), read(t, "b{a:"+strings.Repeat("(", many)+"c"+strings.Repeat(")", many)+"}"), "b{a:"+value+"}")
	}
}

// values: what stands in a text, by the layers below.
func values(s string) []api.Value {
	return parse.Values(token.Tokens(text.Runes([]byte(s))))
}

// eachText: all texts of at most so many of some characters.
func eachText(chars string, most int, f func(s string)) {
	var more func(s string)
	more = func(s string) {
		f(s)
		for i := 0; len(s) < most && i < len(chars); i++ {
			more(s + chars[i:i+1])
		}
	}
	more("")
}

// TestReadAll: all short texts of some characters, against the second reading; and Insert of them.
func TestReadAll(t *testing.T) {
	empty := New().add(t, 1, "")
	for chars, most := range map[string]int{"a1{};:@, ": 5, "a{};:": 8, "a{};@": 8, "a{}1,": 7, "a{} :": 7} {
		t.Run(chars, func(t *testing.T) {
			t.Parallel()
			eachText(chars, most, func(s string) {
				want, blocks := oRead(s)
				l, err := Read(s)
				if err != api.OK || showRules(l) != strings.Join(want, " ") {
					t.Fatalf("Read(%q): %s, %v, want %s", s, showRules(l), err, strings.Join(want, " "))
				}
				next, err := empty.Insert(1, 0, s)
				if one := blocks == 1 && len(want) == 1; one != (err == api.OK) || !one && (err != api.ErrSyntax || next != empty) || one && (len(next.All()) != 1 || showRule(next.All()[0].Rule) != want[0]) {
					t.Fatalf("Insert(%q): %s, %v, of %d blocks, %d rules", s, show(next), err, blocks, len(want))
				}
			})
		})
	}
}

// wholes: texts that leave nothing open, and the rules of each. A text may be read behind any of them as if it were alone.
var wholes = []struct {
	text  string
	rules []string
}{
	{"", nil}, {" ", nil}, {"/*b{}*/", nil}, {"@x y;", nil}, {"@x{a{}}", nil}, {"<!--", nil}, {"-->", nil},
	{"a{}", []string{"a{}"}}, {"a{b:c!important;d}", []string{"a{b:c!important}"}}, {".a>b,#c{d:e(f)}", []string{".a > b, #c{d:e(f)}"}}, {":not(a){}\n[b]{c:\"d\"}", []string{":not(a){}", "[b]{c:\"d\"}"}},
	{"1{}", nil}, {"{}", nil}, {"a,{b:c}", nil}, {"}a{}", nil}, {"1{} b{} c >{}", []string{"b{}"}}, {nots(32) + "{}", nil}, {"\"a\n\"\n{}", nil}, {"a{b:\"c\n}", []string{"a{b:}"}},
}

// TestTogether: rules read together are those read one by one; so are those that are inserted one by one.
func TestTogether(t *testing.T) {
	var more func(text string, rules []string, left int)
	more = func(text string, rules []string, left int) {
		if got, want := read(t, text), strings.Join(rules, " "); got != want {
			t.Fatalf("Read(%q): %s, want %s", text, got, want)
		}
		for i := 0; left > 0 && i < len(wholes); i++ {
			more(text+wholes[i].text, append(rules[:len(rules):len(rules)], wholes[i].rules...), left-1)
		}
	}
	more("", nil, 3)
}

// preludes and bodies: of which rules are made by chance.
var preludes = []string{"a", "*", ".b", "#c", "A.b#c", "a b", "a>b", "a + b ~ c", "[d]", "[d=e]", "[d|='é']", "a,b", " a , .b , c ", ":root", ":empty", ":first-child", ":only-child", ":nth-child(2n+1)", ":nth-last-child(-n + 3)", ":not(a,b c)", ":is(:where(a),b:not(c))", nots(31), "\\31 ", "a/**/b", "a\nb",
	"", "1", "a,", ",a", "a>", ">a", "a b:", ":x", "::a", "#1", ".", "[", "a;b", "(a)", nots(32), nots(64), nots(65), "a]", "!", "a|b", "\"a\""}

var bodies = []string{"", " ", "a:b", "a:b;", "a:b;c:d", "A : B ! IMPORTANT", "a", ":b", "1:b", "a:;b:c", ";;a:b;;", "@x;a:b", "@x{c:d}a:b", "a:(b;c)", "a:{b;c:d};e:f", "a:f(g(h),[i])", "a:'};{'", "a:url(x)", "a:1.5em 2% #fff", "a:b/*;c:d*/e", "a:!important", "a:b!importan", "--a:b", "a{b:c}", "a:b;a:b"}

// blockAlone: what one rule's prelude and body are, by the calls of the layers below that read them alone.
func blockAlone(prelude, body string) (string, bool) {
	list, err := selector.Text(prelude)
	if err != api.OK || !selector.Good(list) {
		return "", false
	}
	return showRule(api.Rule{Selector: list, Decls: parse.Decls(values(body))}), true
}

// TestTogetherByChance: many rules of each sort in one text; the same ones one by one, by Read and by Insert.
func TestTogetherByChance(t *testing.T) {
	r := rand.New(rand.NewSource(11))
	for round := range 400 {
		all, want, s := "", []string(nil), New().add(t, 1, "")
		for range 1 + r.Intn(12) {
			prelude, body := preludes[r.Intn(len(preludes))], bodies[r.Intn(len(bodies))]
			if prelude == "[" { // it would keep its block within itself
				prelude = "[]"
			}
			one := prelude + "{" + body + "}"
			all += one + []string{"", " ", "/**/", "\n", "@x;", "-->"}[r.Intn(6)]
			rule, ok := blockAlone(prelude, body)
			is(t, "alone: "+one, read(t, one), rule)
			if ok {
				want = append(want, rule)
				s = s.insert(t, 1, s.Count(1), one)
			} else {
				refusedInsert(t, s, 1, s.Count(1), one, api.ErrSyntax)
			}
		}
		is(t, fmt.Sprintf("round %d: Read(%q)", round, all), read(t, all), strings.Join(want, " "))
		is(t, fmt.Sprintf("round %d: Add", round), whole(New().add(t, 1, all)), whole(s))
	}
}
