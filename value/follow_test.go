package value

import (
	"math/rand"
	"slices"
	"strconv"
	"strings"
	"testing"

	"gouache/prop"
)

// again: what Parse told of a text is parsed to itself, and to itself with Space around it; and it is no wide word.
func again(t *testing.T, name, s string) bool {
	t.Helper()
	first, ok := Parse(name, cut(s))
	if !ok {
		return false
	}
	is(t, name+" "+s, told(Parse(name, cut(first))), told(first, true))
	is(t, name+" "+s, told(Parse(name, cut("/**/ "+first+"\n"))), told(first, true))
	is(t, name+" "+s, len(cut(first)), 1)
	is(t, name+" "+s, Wide(cut(first)), "")
	return true
}

// TestAgain: P15.4, of each longhand with what each form may be.
func TestAgain(t *testing.T) {
	var all []string
	for _, f := range forms() {
		all = append(all, f, strings.ToUpper(f), " "+f+" ")
	}
	for _, c := range oColors {
		all = append(all, c, strings.ToUpper(c))
	}
	for _, n := range []string{"0", "00", "1", "16", "100", "0999999", "999999", "1000000", "1000001", "99999999999999999999"} {
		for _, sign := range []string{"", "+", "-"} {
			for _, unit := range []string{"", "px", "PX", "%", "\\70 x"} {
				all = append(all, sign+n+unit)
			}
		}
	}
	all = append(all, "#000", "#FFF", "#a1B", "#123456", "#ABCDEF", "#0e0", "#1e3", "#00e100", "\\72 ed", "inherit", "unset")
	many := 0
	for _, name := range names() {
		for _, s := range all {
			if again(t, name, s) {
				many++
			}
		}
	}
	is(t, "many were told", many > 1500, true)
}

// TestAgainOfEachNumber: P15.4, of numbers from below 0 on, and of those around the bounds.
func TestAgainOfEachNumber(t *testing.T) {
	for _, from := range []int{-1000003, -1500, 999997} {
		for n := from; n < from+3000 && n < 1000004 && (from != -1000003 || n < -999996); n++ {
			for _, unit := range []string{"", "px", "%"} {
				s := strconv.Itoa(n) + unit
				for _, name := range []string{"order", "margin-left", "line-height", "font-size"} {
					again(t, name, s)
				}
			}
		}
	}
}

// TestAgainOfEachHash: P15.4, of all colours of three digits, and of many of six.
func TestAgainOfEachHash(t *testing.T) {
	digits := strings.Split("0123456789abcdefABCDEF", "")
	for _, s := range texts(digits, 3) {
		is(t, s, again(t, "color", "#"+s), len(s) == 3)
	}
	r := rand.New(rand.NewSource(6))
	for range 5000 {
		s := "#"
		for range 6 {
			s += digits[r.Intn(len(digits))]
		}
		is(t, s, again(t, "background-color", s), true)
	}
}

// TestAgainByChance: P15.4, of texts of pieces.
func TestAgainByChance(t *testing.T) {
	r := rand.New(rand.NewSource(7))
	all := names()
	for range 40000 {
		again(t, all[r.Intn(len(all))], chance(r))
	}
}

// TestInitials: each longhand's Initial is a value of it, as it is written.
func TestInitials(t *testing.T) {
	for _, p := range prop.All() {
		is(t, p.Name, told(Parse(p.Name, cut(p.Initial))), told(p.Initial, true))
	}
}

// TestNumberOfWhatIsTold: of a form of numbers Number tells what stands there, and of all others nothing.
func TestNumberOfWhatIsTold(t *testing.T) {
	units := []string{"px", "%", ""}
	for i, f := range []string{"<len>", "<pct>", "<int>"} {
		for _, n := range []int{-2000000, -1000001, -1000000, -999999, -10, -1, 0, 1, 9, 10, 999999, 1000000, 1000001, 2000000} {
			s, ok := Part(f, one(t, strconv.Itoa(n)+units[i]))
			m, unit, yes := Number(s)
			is(t, s, []any{ok, m, unit, yes}, []any{true, min(max(n, -1000000), 1000000), units[i], true})
			is(t, s, s, strconv.Itoa(m)+unit)
		}
	}
	for _, f := range append(forms(), oNumbers...) {
		n, unit, ok := Number(f)
		is(t, f, []any{n, unit, ok}, []any{0, "", false})
	}
}

// TestPartOfParse: what Parse tells, one part of the Form tells, and no part ahead of it.
func TestPartOfParse(t *testing.T) {
	for _, p := range prop.All() {
		l := prop.Forms(p)
		for i, f := range l {
			if strings.HasPrefix(f, "<") {
				continue
			}
			is(t, p.Name+" "+f, told(Parse(p.Name, cut(f))), told(f, true))
			is(t, p.Name+" "+f, slices.Index(l, f), i)
		}
	}
}
