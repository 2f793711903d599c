package prop

import "testing"

// TestOdd: names that are none.
func TestOdd(t *testing.T) {
	for _, name := range odd() {
		asks(t, name, -1, Prop{}, nil)
	}
}

// TestAllShort: all names of up to two bytes, and of three letters of those that names have, are none but top.
func TestAllShort(t *testing.T) {
	asks(t, "", -1, Prop{}, nil)
	for a := range 256 {
		asks(t, string([]byte{byte(a)}), -1, Prop{}, nil)
		for b := range 256 {
			asks(t, string([]byte{byte(a), byte(b)}), -1, Prop{}, nil)
		}
	}
	for a := range 26 {
		for b := range 26 {
			for c := range 26 {
				if name := string([]byte{byte('a' + a), byte('a' + b), byte('a' + c)}); name != "top" {
					asks(t, name, -1, Prop{}, nil)
				}
			}
		}
	}
	asks(t, "top", 34, Prop{"top", "auto", false, "auto|<len>|<pct>"}, nil)
}

// TestZero: a zero Prop, and a zero answer beside false.
func TestZero(t *testing.T) {
	is(t, "Forms", Forms(Prop{}), []string{""})
	p, ok := Find("none")
	is(t, "Find", []any{p, ok}, []any{Prop{}, false})
	is(t, "Longs", len(Longs("none")), 0)
}
