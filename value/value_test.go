package value

import (
	"math/rand"
	"strings"
	"testing"

	"gouache/api"
	"gouache/prop"
)

// TestWide: each wide word, small and capital, with Space around it, and what is none.
func TestWide(t *testing.T) {
	r := rand.New(rand.NewSource(1))
	for _, w := range []string{"inherit", "initial", "unset"} {
		for _, s := range []string{w, strings.ToUpper(w), strings.ToUpper(w[:1]) + w[1:], letters(r, w), letters(r, w)} {
			for _, l := range []string{s, " " + s, s + " ", "\n\t " + s + " \n", "/**/" + s + "/**/", " /**/ " + s + " /**/ /**/ "} {
				is(t, l, Wide(cut(l)), w)
			}
			for _, l := range []string{s + s, s + " " + s, s + ",", s + "()", s + "(", "\"" + s + "\"", "#" + s, "@" + s, "." + s, "-" + s, s + "-", "(" + s + ")", s + ";", "!" + s, s + "!important", s + "/**/" + s, "1" + s, s + "1", s[1:], s[:len(s)-1], s + " auto", "auto " + s} {
				is(t, l, Wide(cut(l)), "")
			}
		}
	}
	for _, l := range []string{"", " ", "/**/", "revert", "auto", "inherited", "uninitial", "reset", "inher\\69 t2", "ınherit", "inherıt", "unſet", "İnherit"} {
		is(t, l, Wide(cut(l)), "")
	}
	is(t, "by an escape", Wide(cut("\\69nherit")), "inherit")
	is(t, "nothing", []any{Wide(nil), Wide([]api.Value{})}, []any{"", ""})
}

// TestWideOfKinds: a word's Text is not enough: the kind counts, and what an Ident does not name does not.
func TestWideOfKinds(t *testing.T) {
	for kind := -3; kind < 40; kind++ {
		v := api.Value{Token: api.Token{Kind: kind, Text: "unset", Unit: "unset", Whole: true, Flag: true}}
		want := ""
		if kind == api.Ident {
			want = "unset"
		}
		is(t, "kind", Wide([]api.Value{v}), want)
	}
	is(t, "Kids", Wide([]api.Value{with(ident("Unset"), ident("x"))}), "unset")
}

// TestColorNames: each colour that the chapter names, small and capital.
func TestColorNames(t *testing.T) {
	r := rand.New(rand.NewSource(2))
	for i, c := range oColors {
		for _, s := range []string{c, strings.ToUpper(c), strings.ToUpper(c[:1]) + c[1:], letters(r, c), letters(r, c)} {
			is(t, s, told(Color(one(t, s))), told(oNumbers[i], true))
			is(t, s, told(Color(hash(s))), told(oColor(hash(s))))
			for _, x := range []string{s + "x", "x" + s, s[1:], s[:len(s)-1], s + "-", s + " ", " " + s, s + s, "-" + s, s + "\x00", "\xff" + s} {
				is(t, x, told(Color(ident(x))), none())
			}
		}
	}
	for _, s := range []string{"", "#", "grey", "orange", "transparent", "currentcolor", "inherit", "none", "000000", "#000000", "#ff0000", "f00", "fff", "silver", "lime", "blacK", "ſilver", "blac\u212a"} {
		is(t, s, told(Color(ident(s))), told(oColor(ident(s))))
	}
	is(t, "K that is none", told(Color(ident("blac\u212a"))), none())
	is(t, "by an escape", told(Color(one(t, "\\72 ed"))), told("#ff0000", true))
}

// TestColorHashes: all hashes of three digits, many of six, and of other lengths and signs.
func TestColorHashes(t *testing.T) {
	digits := strings.Split("0123456789abcdefABCDEF", "")
	for _, s := range texts(digits, 3) {
		is(t, s, told(Color(hash(s))), told(oColor(hash(s))))
	}
	is(t, "three", told(Color(one(t, "#aB3"))), told("#aabb33", true))
	is(t, "six", told(Color(one(t, "#aBcD09"))), told("#abcd09", true))
	is(t, "capital", told(Color(one(t, "#FFFFFF"))), told("#ffffff", true))
	r := rand.New(rand.NewSource(3))
	for range 20000 {
		var s string
		for range r.Intn(10) {
			s += digits[r.Intn(len(digits))]
		}
		is(t, s, told(Color(hash(s))), told(oColor(hash(s))))
	}
	for _, n := range []int{0, 1, 2, 4, 5, 7, 8, 9, 12, 1 << 16} {
		is(t, "other lengths", told(Color(hash(strings.Repeat("a", n)))), none())
	}
}

// TestColorSigns: each byte at each place of a hash: only digits to base 16 go.
func TestColorSigns(t *testing.T) {
	for _, s := range []string{"1a2", "1a2B3c"} {
		for i := range len(s) {
			for b := range 256 {
				x := s[:i] + string([]byte{byte(b)}) + s[i+1:]
				is(t, x, told(Color(hash(x))), told(oColor(hash(x))))
			}
		}
	}
	for _, s := range []string{"é1", "1é", "é1é1", "éé", "éé11", "ééé", "1é234", "日", "日日", "日bc1", "\U0001f600ab", "ff\ufffd", "٣٣٣", "٣٣", "fff ", " fff", "#fff", "-fff", "ggg", "gggggg", "+12", "0x1", "1e-"} {
		is(t, s, told(Color(hash(s))), none())
	}
	for _, s := range []string{"#0f", "#", "#ffff", "#fffff", "#fffffff", "#ffffffff", "#ggg", "#-ab", "#_ab"} {
		for _, v := range cut(s) {
			is(t, s, told(Color(v)), none())
		}
	}
	is(t, "by escapes", told(Color(one(t, "#\\66 0\\30"))), told("#ff0000", true))
}

// TestColorOfKinds: of each kind that is neither an Ident nor a Hash nothing; what these do not name is not looked at.
func TestColorOfKinds(t *testing.T) {
	for kind := -3; kind < 40; kind++ {
		for _, s := range []string{"red", "f00", "ff0000", "bad", "red2", "000000"} {
			v := api.Value{Token: api.Token{Kind: kind, Text: s}}
			is(t, s, told(Color(v)), told(oColor(v)))
			v.Token.Flag, v.Token.Whole, v.Token.Unit, v.Kids = true, true, "px", []api.Value{ident("x")}
			is(t, s, told(Color(v)), told(oColor(v)))
		}
	}
	is(t, "Kids", told(Color(with(ident("Red"), ident("x")))), told("#ff0000", true))
}

// TestPartOfNumbers: each form of numbers with each kind, sign and unit.
func TestPartOfNumbers(t *testing.T) {
	type row struct{ form, s, want string }
	for _, x := range []row{
		{"<len>", "10px", "10px"}, {"<len>", "10PX", "10px"}, {"<len>", "+10Px", "10px"}, {"<len>", "-10pX", "-10px"}, {"<len>", "007px", "7px"}, {"<len>", "0px", "0px"}, {"<len>", "-0px", "0px"},
		{"<len>", "0", "0px"}, {"<len>", "-0", "0px"}, {"<len>", "+0", "0px"}, {"<len>", "000", "0px"}, {"<len>", "-000", "0px"}, {"<len>", "1\\70 x", "1px"}, {"<len>", "1p\\58", "1px"},
		{"<len>", "1", ""}, {"<len>", "-1", ""}, {"<len>", "0.0", ""}, {"<len>", "0e0", ""}, {"<len>", "1.5px", ""}, {"<len>", "1.0px", ""}, {"<len>", "1e1px", ""}, {"<len>", "10em", ""}, {"<len>", "10p", ""}, {"<len>", "10pxx", ""}, {"<len>", "0em", ""}, {"<len>", "0%", ""}, {"<len>", "10%", ""}, {"<len>", "px", ""}, {"<len>", "#10px", ""}, {"<len>", "\"10px\"", ""}, {"<len>", "0e1px", ""}, {"<len>", "1pẋ", ""},
		{"<len+>", "10px", "10px"}, {"<len+>", "+10PX", "10px"}, {"<len+>", "0", "0px"}, {"<len+>", "-0", "0px"}, {"<len+>", "-0px", "0px"}, {"<len+>", "-1px", ""}, {"<len+>", "-1", ""}, {"<len+>", "1", ""}, {"<len+>", "1.0px", ""},
		{"<pct>", "10%", "10%"}, {"<pct>", "-10%", "-10%"}, {"<pct>", "+010%", "10%"}, {"<pct>", "-0%", "0%"}, {"<pct>", "0", ""}, {"<pct>", "10", ""}, {"<pct>", "10px", ""}, {"<pct>", "1.0%", ""}, {"<pct>", "1e1%", ""}, {"<pct>", "%", ""},
		{"<pct+>", "10%", "10%"}, {"<pct+>", "0%", "0%"}, {"<pct+>", "-0%", "0%"}, {"<pct+>", "-1%", ""}, {"<pct+>", "0", ""},
		{"<int>", "10", "10"}, {"<int>", "-10", "-10"}, {"<int>", "+10", "10"}, {"<int>", "-00", "0"}, {"<int>", "0", "0"}, {"<int>", "1.0", ""}, {"<int>", "1e0", ""}, {"<int>", "10px", ""}, {"<int>", "10%", ""}, {"<int>", "a", ""},
		{"<int+>", "10", "10"}, {"<int+>", "-0", "0"}, {"<int+>", "+0", "0"}, {"<int+>", "-1", ""}, {"<int+>", "0px", ""},
	} {
		is(t, x.form+" "+x.s, told(Part(x.form, cut(x.s)[0])), told(x.want, x.want != ""))
	}
}

// TestPartAtTheBounds: what is beyond a bound is the bound.
func TestPartAtTheBounds(t *testing.T) {
	long := strings.Repeat("9", 5000)
	for _, x := range [][2]string{{"999999", "999999"}, {"1000000", "1000000"}, {"1000001", "1000000"}, {"9223372036854775807", "1000000"}, {"9223372036854775808", "1000000"}, {"18446744073709551616", "1000000"}, {"18446744073709551617", "1000000"}, {"0000000001000000", "1000000"}, {long, "1000000"}, {strings.Repeat("0", 5000) + "7", "7"}} {
		for _, u := range []struct{ form, unit string }{{"<len", "px"}, {"<pct", "%"}, {"<int", ""}} {
			for _, plus := range []string{">", "+>"} {
				is(t, x[0], told(Part(u.form+plus, one(t, x[0]+u.unit))), told(x[1]+u.unit, true))
				is(t, x[0], told(Part(u.form+plus, one(t, "+"+x[0]+u.unit))), told(x[1]+u.unit, true))
			}
			is(t, x[0], told(Part(u.form+">", one(t, "-"+x[0]+u.unit))), told("-"+x[1]+u.unit, true))
			is(t, x[0], told(Part(u.form+"+>", one(t, "-"+x[0]+u.unit))), none())
		}
	}
}

// TestPartOfColors: <color> is Color, but for Kids; with a + it is a word like others.
func TestPartOfColors(t *testing.T) {
	for _, s := range []string{"red", "RED", "#F00", "#aabbcc", "#aabbc", "transparent", "currentcolor", "1", "rgb", "0"} {
		v := one(t, s)
		is(t, s, told(Part("<color>", v)), told(Color(v)))
		is(t, s, told(Part("<color+>", v)), none())
		is(t, s, told(Part("<color>", with(v, ident("x")))), none())
		is(t, s, told(Part("<color>", with(v, []api.Value{}...))), told(Color(v)))
	}
	is(t, "as a word", told(Part("<color+>", one(t, "\\<COLOR\\+\\>"))), told("<color+>", true))
}

// TestPartOfWords: a form that is a word is told as it was handed in, whatever letters the Ident has.
func TestPartOfWords(t *testing.T) {
	r := rand.New(rand.NewSource(4))
	for _, f := range forms() {
		if strings.HasPrefix(f, "<") {
			continue
		}
		for _, s := range []string{f, strings.ToUpper(f), letters(r, f)} {
			is(t, s, told(Part(f, one(t, s))), told(f, true))
			is(t, s, told(Part(f, with(one(t, s), ident("x")))), none())
			for _, x := range []string{s + "x", "x" + s, s[1:], s[:len(s)-1], s + " ", " " + s, strings.ReplaceAll(s, "-", "") + "-", s + "\x00", s + "\xff"} {
				is(t, x, told(Part(f, ident(x))), none())
			}
			for _, x := range []string{"\"" + s + "\"", "#" + s, "@" + s, s + "()", "(" + s + ")", "[" + s, "1" + s, "url(" + s + ")"} {
				is(t, x, told(Part(f, one(t, x))), none())
			}
		}
	}
}

// TestPartOfOtherWords: forms that no property has: in capital letters, empty, with signs, with bytes that are no characters.
func TestPartOfOtherWords(t *testing.T) {
	list := []string{"", "Block", "BLOCK", "<LEN>", "<len", "len>", "len", "<len++>", "<+len>", "<len +>", " <len>", "<len> ", "<num>", "<num+>", "<pct >", "<Color>", "<color", "<>", "+>", "<+>", "+", "a|b", "auto|<len>", "red", "#f00", "10px", "0", "é", "É", "\xff", "\xff\xfe", "K", "\u212a", "k", "ſ", "s", "\x00", strings.Repeat("Ab", 1000)}
	for _, f := range list {
		for _, s := range append(list, "block", "<len>", "<len+>", "<color>", "RED", "Auto") {
			for _, v := range []api.Value{ident(s), hash(s), num(s), dim(s, "px"), pct(s)} {
				is(t, f+" of "+s, told(Part(f, v)), told(oPart(f, v)))
			}
		}
		is(t, f, told(Part(f, ident(f))), told(f, true))
		is(t, f, told(Part(f, num("0"))), none())
		is(t, f, told(Part(f, dim("1", "px"))), none())
		is(t, f, told(Part(f, pct("1"))), none())
	}
	for _, f := range []string{"<len>", "<len+>", "<pct>", "<pct+>", "<int>", "<int+>", "<color>"} {
		is(t, f, told(Part(f, ident(f))), none())
	}
}

// TestPartOfAll: each form with tokens of each kind, Text, Unit, Whole and Flag, with Kids and without.
func TestPartOfAll(t *testing.T) {
	all := append(forms(), "<color+>", "<LEN>", "", "0", "px", "%", "Auto")
	for kind := -1; kind < 27; kind++ {
		for _, s := range []string{"", "0", "-0", "+0", "5", "-5", "+5", "--5", "+-5", "-", "+", "5.", "0.0", "1e3", "5px", "5 ", "٣", "\xff", "auto", "NONE", "red", "Black", "f00", "FF00aa", "-12345678901234567890123"} {
			for _, unit := range []string{"", "px", "PX", "Px", "em", "%", "px ", "p", "ｐｘ"} {
				for bits := range 16 {
					v := api.Value{Token: api.Token{Kind: kind, Text: s, Unit: unit, Whole: bits&1 > 0, Flag: bits&2 > 0}}
					if bits&4 > 0 {
						v.Kids = []api.Value{}
					}
					if bits&8 > 0 {
						v.Kids = append(v.Kids, api.Value{})
					}
					for _, f := range all {
						got, ok := Part(f, v)
						if want, yes := oPart(f, v); got != want || ok != yes {
							t.Fatalf("%q of %v: %q %v, want %q %v", f, v, got, ok, want, yes)
						}
					}
				}
			}
		}
	}
}

// TestParseOfEach: each longhand with each part of its Forms, and of all others' Forms.
func TestParseOfEach(t *testing.T) {
	samples := map[string][]string{
		"<len>": {"10px", "-3PX", "0", "+0", "-0", "00px"}, "<len+>": {"10px", "3PX", "0", "-0"},
		"<pct>": {"10%", "-3%", "0%"}, "<pct+>": {"10%", "0%", "-0%"},
		"<int>": {"10", "-3", "0", "+7"}, "<int+>": {"10", "0", "-0", "+7"},
		"<color>": append([]string{"#F00", "#1a2B3c", "RED"}, oColors...),
	}
	var all []string
	for _, f := range forms() {
		l := samples[f]
		if l == nil {
			l = []string{f, strings.ToUpper(f)}
		}
		samples[f] = l
		all = append(all, l...)
	}
	all = append(all, "inherit", "initial", "unset", "foo", "-1px", "-1%", "-1", "1.5px", "1em", "#ab", "\"a\"", "(", "rgb(0)", "0px 0px", "auto auto", ",", "red red")
	for _, p := range prop.All() {
		for _, f := range prop.Forms(p) {
			for _, s := range samples[f] {
				got, ok := Parse(p.Name, cut(" "+s+"\n"))
				is(t, p.Name+" "+s, []any{ok, got != ""}, []any{true, true})
			}
		}
		for _, s := range all {
			is(t, p.Name+" "+s, told(Parse(p.Name, cut(s))), told(oParse(p.Name, cut(s))))
			is(t, p.Name+" "+s, told(Parse(p.Name, cut(" "+s+" "))), told(oParse(p.Name, cut(s))))
			is(t, p.Name+" "+s, told(Parse(p.Name, cut(s+" x"))), none())
			is(t, p.Name+" "+s, told(Parse(p.Name, cut("x/**/"+s))), none())
			is(t, p.Name+" "+s, told(Parse(p.Name, cut("("+s+")"))), none())
		}
		is(t, p.Name, told(Parse(p.Name, nil)), none())
		is(t, p.Name, told(Parse(p.Name, []api.Value{})), none())
		is(t, p.Name, told(Parse(p.Name, cut(" "))), none())
		is(t, p.Name, told(Parse(p.Name, cut(" /**/ "))), none())
	}
}

// TestParseOfTheFirst: of several parts of a Form that fit, the first one tells.
func TestParseOfTheFirst(t *testing.T) {
	for _, x := range [][3]string{{"line-height", "0", "0"}, {"line-height", "0px", "0px"}, {"line-height", "0%", "0%"}, {"line-height", "-0", "0"}, {"line-height", "2", "2"}, {"line-height", "-2", ""}, {"margin-top", "0", "0px"}, {"z-index", "0", "0"}, {"z-index", "-0", "0"}, {"border-left-width", "0", "0px"}, {"border-left-width", "1", ""}, {"font-weight", "0", "0"}, {"order", "-0", "0"}} {
		is(t, x[0]+" "+x[1], told(Parse(x[0], cut(x[1]))), told(x[2], x[2] != ""))
	}
}

// TestParseOfOtherNames: of a name that is no longhand's nothing, also of a shorthand's.
func TestParseOfOtherNames(t *testing.T) {
	for _, name := range append(prop.Shorts(), "", " ", "WIDTH", "Color", "colo", "colors", " color", "color ", "border", "font", "--x", "\xff", "<len>", "auto", strings.Repeat("a", 1<<20)) {
		for _, s := range []string{"", "0", "10px", "10%", "auto", "none", "red", "visible", "solid", "medium", "inherit"} {
			is(t, name+" "+s, told(Parse(name, cut(s))), none())
		}
	}
}

// TestParseOfShortTexts: what is told of all texts of up to four characters that matter, against what is written.
func TestParseOfShortTexts(t *testing.T) {
	signs := []string{" ", "-", "+", "0", "1", ".", "p", "X", "%", "#", "e", "Px"}
	for _, name := range []string{"margin-top", "padding-left", "color", "order", "line-height", "z-index"} {
		p, _ := prop.Find(name)
		for _, s := range texts(signs, 4) {
			want := none()
			for _, f := range strings.Split(p.Form, "|") {
				if w, ok := quickly(f, s); ok {
					want = told(w, true)
					break
				}
			}
			is(t, name+" "+s, told(Parse(name, cut(s))), want)
		}
	}
}

// quickly: oWritten, but for texts of which none of its forms can be.
func quickly(form, s string) (string, bool) {
	if !strings.HasPrefix(form, "<") && strings.ContainsAny(s, "01#%.+") {
		return "", false
	}
	return oWritten(form, s)
}

// TestNumber: digits, at times behind -, with each unit.
func TestNumber(t *testing.T) {
	type row struct {
		s    string
		n    int
		unit string
		ok   bool
	}
	for _, x := range []row{
		{"0", 0, "", true}, {"-0", 0, "", true}, {"00", 0, "", true}, {"7", 7, "", true}, {"-7", -7, "", true}, {"007px", 7, "px", true}, {"-12%", -12, "%", true}, {"0px", 0, "px", true}, {"0%", 0, "%", true}, {"-0px", 0, "px", true},
		{"999999px", 999999, "px", true}, {"1000000", 1000000, "", true}, {"1000001%", 1000000, "%", true}, {"-999999", -999999, "", true}, {"-1000000px", -1000000, "px", true}, {"-1000001", -1000000, "", true}, {"99999999999999999999px", 1000000, "px", true}, {"-99999999999999999999%", -1000000, "%", true}, {"18446744073709551617", 1000000, "", true}, {"9223372036854775808", 1000000, "", true}, {"-9223372036854775809", -1000000, "", true},
		{"", 0, "", false}, {"-", 0, "", false}, {"px", 0, "", false}, {"%", 0, "", false}, {"-px", 0, "", false}, {"-%", 0, "", false}, {"+1", 0, "", false}, {"+1px", 0, "", false}, {"--1", 0, "", false}, {"-+1", 0, "", false}, {"+-1", 0, "", false}, {"+", 0, "", false}, {"1PX", 0, "", false}, {"1Px", 0, "", false}, {"1p", 0, "", false}, {"1x", 0, "", false}, {"1pxx", 0, "", false}, {"1px%", 0, "", false}, {"1%px", 0, "", false}, {"1%%", 0, "", false}, {"1pxpx", 0, "", false}, {"1 px", 0, "", false}, {" 1", 0, "", false}, {"1 ", 0, "", false}, {"1px ", 0, "", false}, {"1.0", 0, "", false}, {"1e1", 0, "", false}, {"1-", 0, "", false}, {"1-1", 0, "", false}, {"1_0", 0, "", false}, {"0x1", 0, "", false}, {"1em", 0, "", false}, {"auto", 0, "", false}, {"#000000", 0, "", false}, {"٣", 0, "", false}, {"1\x00", 0, "", false}, {"\xff1", 0, "", false}, {"1\xffpx", 0, "", false}, {"−1", 0, "", false}, {"1\n", 0, "", false},
	} {
		n, unit, ok := Number(x.s)
		is(t, x.s, []any{n, unit, ok}, []any{x.n, x.unit, x.ok})
	}
}

// TestNumberOfShortTexts: all texts of up to six characters that matter.
func TestNumberOfShortTexts(t *testing.T) {
	for _, s := range texts([]string{"-", "+", "0", "9", "p", "x", "%", " "}, 6) {
		n, unit, ok := Number(s)
		if m, u, yes := oNumber(s); n != m || unit != u || ok != yes {
			t.Fatalf("%q: %d %q %v, want %d %q %v", s, n, unit, ok, m, u, yes)
		}
	}
}

// TestNumberAroundTheBounds: each number near a bound, with each unit.
func TestNumberAroundTheBounds(t *testing.T) {
	for _, sign := range []string{"", "-", "0", "-00"} {
		for _, s := range []string{"99999", "100000", "999998", "999999", "1000000", "1000001", "1000002", "9999999", "10000000", "2147483647", "2147483648", "4294967296", "9223372036854775807", "9223372036854775808", "92233720368547758070", "184467440737095516160"} {
			for _, unit := range []string{"px", "%", ""} {
				n, u, ok := Number(sign + s + unit)
				m, v, yes := oNumber(sign + s + unit)
				is(t, sign+s+unit, []any{n, u, ok}, []any{m, v, yes})
			}
		}
	}
}

// TestExamples: the chapter's.
func TestExamples(t *testing.T) {
	is(t, "10PX", told(Parse("width", cut("10PX"))), told("10px", true))
	is(t, "-1px", told(Parse("width", cut("-1px"))), none())
	is(t, "#F00", told(Parse("color", cut("#F00"))), told("#ff0000", true))
	is(t, "0", told(Parse("margin-top", cut("0"))), told("0px", true))
}

// TestByChance: texts of pieces, with all calls.
func TestByChance(t *testing.T) {
	r := rand.New(rand.NewSource(5))
	all, parts := names(), forms()
	for range 40000 {
		s := chance(r)
		l := cut(s)
		is(t, s, Wide(l), oWide(l))
		name := all[r.Intn(len(all))]
		is(t, name+" "+s, told(Parse(name, l)), told(oParse(name, l)))
		for _, v := range l {
			f := parts[r.Intn(len(parts))]
			is(t, f+" "+s, told(Part(f, v)), told(oPart(f, v)))
			is(t, s, told(Color(v)), told(oColor(v)))
		}
		n, u, ok := Number(s)
		m, w, yes := oNumber(s)
		is(t, s, []any{n, u, ok}, []any{m, w, yes})
	}
}
