package nth

import (
	"math/big"
	"regexp"
	"strings"

	"gouache/api"
)

// The oracle reads by one expression and reckons with numbers without bounds: a second reading of P4.1 and P4.2 that shares nothing with the program.
var oForm = regexp.MustCompile(`\A *(?:([eE][vV][eE][nN])|([oO][dD][dD])|([+-]?[0-9]+)|([+-]?)([0-9]*)[nN](?:[ ]?([+-])[ ]?([0-9]+))?) *\z`)

// oWritten: how the tokens of each kind are written; the answer is false of what may not stand there.
func oWritten(l []api.Value) (string, bool) {
	s := ""
	for _, v := range l {
		k, whole := v.Token, v.Token.Whole
		switch {
		case k.Kind == 1, k.Kind == 10 && whole:
			s += k.Text
		case k.Kind == 12 && whole:
			s += k.Text + k.Unit
		case k.Kind == 9 && k.Text == "+":
			s += "+"
		case k.Kind == 9 && k.Text == "-":
			s += "-"
		case k.Kind == 13:
			s += " "
		default:
			return "", false
		}
	}
	return s, true
}

func oNumber(s string) int {
	n, ok := new(big.Int).SetString(strings.TrimPrefix(s, "+"), 10)
	if !ok {
		panic("no number: " + s)
	}
	switch {
	case n.Cmp(big.NewInt(1000000)) > 0:
		return 1000000
	case n.Cmp(big.NewInt(-1000000)) < 0:
		return -1000000
	}
	return int(n.Int64())
}

func oText(s string) (int, int, bool) {
	m := oForm.FindStringSubmatch(s)
	switch {
	case m == nil:
		return 0, 0, false
	case m[1] != "":
		return 2, 0, true
	case m[2] != "":
		return 2, 1, true
	case m[3] != "":
		return 0, oNumber(m[3]), true
	}
	a, b := m[5], m[7]
	if a == "" {
		a = "1"
	}
	if b == "" {
		b = "0"
	}
	return oNumber(m[4] + a), oNumber(m[6] + b), true
}

func oParse(l []api.Value) (int, int, bool) {
	s, ok := oWritten(l)
	if !ok {
		return 0, 0, false
	}
	return oText(s)
}

func whole(x int) *big.Int { return big.NewInt(int64(x)) }

// oFits: n - b = a k; with a, k is that by a, if nothing is left.
func oFits(a, b, n int) bool {
	d := new(big.Int).Sub(whole(n), whole(b))
	if n < 1 {
		return false
	}
	if a == 0 {
		return d.Sign() == 0
	}
	k, left := new(big.Int).QuoRem(d, whole(a), new(big.Int))
	return left.Sign() == 0 && k.Sign() >= 0
}

// oFirst reckons with the one k that may be: the first with which a k + b is 1 or above, or, with a below 0, the last.
func oFirst(a, b int) int {
	if a == 0 {
		if 1 <= b && b <= 1000000 {
			return b
		}
		return 0
	}
	// The whole part, downward, of (1 - b) / a: for a below 0 that is the last k with a k + b at 1 or above.
	k := new(big.Int).Sub(whole(1), whole(b))
	left := new(big.Int)
	k.QuoRem(k, whole(a), left)
	if left.Sign() != 0 && (left.Sign() < 0) != (a < 0) {
		k.Sub(k, whole(1))
	}
	// With a above 0 it is to be rounded upward, and may not be below 0.
	if a > 0 {
		if left.Sign() != 0 {
			k.Add(k, whole(1))
		}
		if k.Sign() < 0 {
			k.SetInt64(0)
		}
	}
	if k.Sign() < 0 {
		return 0
	}
	n := new(big.Int).Mul(k, whole(a))
	n.Add(n, whole(b))
	if n.Cmp(whole(1000000)) > 0 || n.Sign() < 1 {
		return 0
	}
	return int(n.Int64())
}
