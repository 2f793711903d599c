package nth

import (
	"math"
	"math/rand"
	"testing"

	"gouache/api"
)

// edges: numbers at which something changes, or might wrap.
func edges() []int {
	out := []int{0}
	for _, x := range []int{1, 2, 3, 5, 10, 999999, 1000000, 1000001, 2000000, math.MaxInt32, math.MaxInt32 + 1, math.MaxUint32, math.MaxUint32 + 1, 1 << 61, 1 << 62, 1<<62 + 1, math.MaxInt/2 + 1, math.MaxInt - 1000000, math.MaxInt - 2, math.MaxInt - 1, math.MaxInt} {
		out = append(out, x, -x)
	}
	return append(out, math.MinInt)
}

func TestFits(t *testing.T) {
	for _, c := range []struct {
		a, b, n int
		want    bool
	}{
		{-1, 3, 1, true}, {-1, 3, 2, true}, {-1, 3, 3, true}, {-1, 3, 4, false}, {-1, 3, 0, false}, {-1, 3, -1, false},
		{2, 1, 1, true}, {2, 1, 2, false}, {2, 1, 3, true}, {2, 0, 1, false}, {2, 0, 2, true}, {2, 0, 0, false},
		{0, 5, 5, true}, {0, 5, 4, false}, {0, 5, 6, false}, {0, 0, 0, false}, {0, -5, -5, false}, {0, math.MaxInt, math.MaxInt, true}, {0, math.MinInt, math.MinInt, false},
		{3, 5, 2, false}, {3, 5, 5, true}, {3, 5, 8, true}, {3, -5, 1, true}, {3, -5, 4, true}, {3, -5, 3, false}, {-3, 5, 2, true}, {-3, 5, 5, true}, {-3, 5, 8, false}, {-3, -5, 1, false},
		{1, math.MinInt, 1, true}, {1, math.MinInt, math.MaxInt, true}, {2, math.MinInt, math.MaxInt, false}, {2, math.MinInt, math.MaxInt - 1, true}, {math.MaxInt, math.MinInt, math.MaxInt, false}, {math.MaxInt, math.MinInt, math.MaxInt - 1, true}, {math.MaxInt, math.MinInt + 1, math.MaxInt, true}, {math.MaxInt, math.MinInt, 1, false},
		{math.MaxInt, 0, math.MaxInt, true}, {math.MaxInt, -math.MaxInt, math.MaxInt, true}, {math.MinInt, math.MaxInt, math.MaxInt, true}, {math.MinInt, math.MaxInt, 1, false}, {math.MinInt, math.MinInt, 1, false}, {-math.MaxInt, math.MaxInt, 1, false}, {1 - math.MaxInt, math.MaxInt, 1, true}, {-1, math.MaxInt, 1, true}, {1, math.MaxInt, math.MaxInt, true}, {1, math.MaxInt, math.MaxInt - 1, false},
		{1, 1, math.MinInt, false}, {-1, 1, math.MinInt, false}, {-1, math.MinInt, math.MinInt, false}, {1, math.MinInt, 0, false}, {1, math.MinInt, -1, false},
	} {
		if got := Fits(c.a, c.b, c.n); got != c.want {
			t.Errorf("Fits(%d, %d, %d): %t", c.a, c.b, c.n, got)
		}
	}
}

// TestFitsByTrying: with small numbers, each k that may be is tried.
func TestFitsByTrying(t *testing.T) {
	for a := -9; a <= 9; a++ {
		for b := -30; b <= 30; b++ {
			for n := -20; n <= 60; n++ {
				want := false
				for k := 0; k <= 100; k++ {
					want = want || n >= 1 && a*k+b == n
				}
				if Fits(a, b, n) != want {
					t.Fatalf("Fits(%d, %d, %d): %t", a, b, n, !want)
				}
			}
		}
	}
}

func TestFitsAtTheEnds(t *testing.T) {
	for _, a := range edges() {
		for _, b := range edges() {
			for _, n := range edges() {
				if got := Fits(a, b, n); got != oFits(a, b, n) {
					t.Errorf("Fits(%d, %d, %d): %t", a, b, n, got)
				}
			}
		}
	}
}

// wild: numbers of all lengths, with both signs.
func wild(r *rand.Rand) int { return int(r.Uint64()) >> r.Intn(64) }

func TestFitsAndFirstByChance(t *testing.T) {
	r := rand.New(rand.NewSource(42))
	for range 300000 {
		a, b, n := wild(r), wild(r), wild(r)
		if r.Intn(2) == 0 {
			// One that is likely to fit, where nothing wraps.
			n = b + a*r.Intn(9)
		}
		if got := Fits(a, b, n); got != oFits(a, b, n) {
			t.Fatalf("Fits(%d, %d, %d): %t", a, b, n, got)
		}
		if got := First(a, b); got != oFirst(a, b) {
			t.Fatalf("First(%d, %d): %d, want %d", a, b, got, oFirst(a, b))
		}
	}
}

func TestFirst(t *testing.T) {
	for _, c := range []struct{ a, b, want int }{
		{3, 0, 3}, {2, 1, 1}, {2, 0, 2}, {-1, 3, 1}, {-2, 4, 2}, {-2, 5, 1}, {-7, 5, 5}, {0, 5, 5}, {1, 0, 1}, {1, -100, 1}, {3, -5, 1}, {3, -6, 3}, {3, -7, 2}, {5, 7, 7},
		{0, 0, 0}, {0, -1, 0}, {0, math.MinInt, 0}, {0, 1, 1}, {0, 1000000, 1000000}, {0, 1000001, 0}, {0, math.MaxInt, 0},
		{-1, 0, 0}, {-1, -1, 0}, {-3, 0, 0}, {math.MinInt, 0, 0}, {math.MinInt, math.MinInt, 0}, {-1, math.MinInt, 0},
		{1, 1000000, 1000000}, {1, 1000001, 0}, {1, 999999, 999999}, {7, math.MaxInt, 0}, {1000000, 0, 1000000}, {1000001, 0, 0}, {1000001, -1, 1000000}, {math.MaxInt, 0, 0}, {math.MaxInt, 1000000, 1000000}, {math.MaxInt, 1 - math.MaxInt, 1}, {math.MaxInt, 1000000 - math.MaxInt, 1000000}, {math.MaxInt, 1000001 - math.MaxInt, 0},
		{1, math.MinInt, 1}, {2, math.MinInt, 2}, {3, math.MinInt, 1}, {math.MaxInt, math.MinInt, 0}, {math.MaxInt, math.MinInt + 1, 0}, {math.MaxInt, math.MinInt + 2, 1},
		{-1, math.MaxInt, 1}, {-2, math.MaxInt, 1}, {-2, math.MaxInt - 1, 2}, {math.MinInt, math.MaxInt, 0}, {-math.MaxInt, math.MaxInt, 0}, {1 - math.MaxInt, math.MaxInt, 1}, {math.MinInt, 1000000, 1000000}, {math.MinInt, 1000001, 0}, {-1000001, 1000001, 0}, {-1000000, 1000001, 1}, {-1000000, 2000000, 1000000}, {-1000001, 2000001, 1000000},
	} {
		if got := First(c.a, c.b); got != c.want {
			t.Errorf("First(%d, %d): %d, want %d", c.a, c.b, got, c.want)
		}
	}
}

// TestFirstByTrying: all that are below it do not fit.
func TestFirstByTrying(t *testing.T) {
	for a := -40; a <= 40; a++ {
		for b := -90; b <= 90; b++ {
			want := 0
			for n := 100; n >= 1; n-- {
				if oFits(a, b, n) {
					want = n
				}
			}
			if got := First(a, b); got != want {
				t.Errorf("First(%d, %d): %d, want %d", a, b, got, want)
			}
		}
	}
}

func TestFirstAtTheEnds(t *testing.T) {
	for _, a := range edges() {
		for _, b := range edges() {
			if got := First(a, b); got != oFirst(a, b) {
				t.Errorf("First(%d, %d): %d, want %d", a, b, got, oFirst(a, b))
			}
		}
	}
}

// TestFirstIsTheFirstThatFits: by going through all of them.
func TestFirstIsTheFirstThatFits(t *testing.T) {
	for _, c := range [][2]int{{1000003, 7 - 1000003}, {1000003, -3}, {1000003, -2}, {-1000003, 2000005}, {-1000003, 2000006}, {math.MaxInt, math.MinInt}, {math.MaxInt - 5, math.MinInt + 1000}, {math.MinInt, math.MaxInt}, {0, 1000001}, {-17, 1000000}} {
		want := 0
		for n := 1; n <= 1000000 && want == 0; n++ {
			if Fits(c[0], c[1], n) {
				want = n
			}
		}
		if got := First(c[0], c[1]); got != want {
			t.Errorf("First(%d, %d): %d, want %d", c[0], c[1], got, want)
		}
	}
}

func TestPrint(t *testing.T) {
	for _, c := range []struct {
		a, b int
		want string
	}{
		{2, 0, "even"}, {2, 1, "odd"}, {2, 2, "2n+2"}, {2, -1, "2n-1"}, {-2, 0, "-2n"}, {-2, 1, "-2n+1"},
		{0, 0, "0"}, {0, 5, "5"}, {0, -5, "-5"}, {0, 1, "1"}, {0, 1000001, "1000001"},
		{1, 0, "n"}, {-1, 0, "-n"}, {1, 1, "n+1"}, {1, -1, "n-1"}, {-1, 3, "-n+3"}, {-1, -3, "-n-3"}, {3, 0, "3n"}, {3, 4, "3n+4"}, {3, -4, "3n-4"}, {-3, -4, "-3n-4"}, {10, 10, "10n+10"}, {11, -1, "11n-1"}, {-11, 1, "-11n+1"},
		{0, math.MinInt, "-9223372036854775808"}, {0, math.MaxInt, "9223372036854775807"}, {math.MinInt, math.MinInt, "-9223372036854775808n-9223372036854775808"}, {math.MaxInt, math.MaxInt, "9223372036854775807n+9223372036854775807"}, {math.MinInt, 0, "-9223372036854775808n"}, {1, math.MinInt, "n-9223372036854775808"}, {-1, math.MaxInt, "-n+9223372036854775807"},
	} {
		if got := Print(c.a, c.b); got != c.want {
			t.Errorf("Print(%d, %d): %q, want %q", c.a, c.b, got, c.want)
		}
	}
}

// within: a number, or the bound that is nearer to it.
func within(x int) int { return max(-1000000, min(x, 1000000)) }

// checkAgain: what is printed is read again, both as tokens cut by the layers below and as one.
func checkAgain(t *testing.T, a, b int) {
	t.Helper()
	s := Print(a, b)
	for _, l := range [][]api.Value{values(s), one(ident(s)), values(" " + s + "\n")} {
		if x, y, ok := Parse(l); x != within(a) || y != within(b) || !ok {
			t.Errorf("Parse of %q, printed of %d, %d: %d, %d, %t", s, a, b, x, y, ok)
		}
	}
}

func TestPrintIsReadAgain(t *testing.T) {
	for a := -25; a <= 25; a++ {
		for b := -25; b <= 25; b++ {
			checkAgain(t, a, b)
		}
	}
	for _, a := range edges() {
		for _, b := range edges() {
			checkAgain(t, a, b)
		}
	}
	r := rand.New(rand.NewSource(7))
	for range 20000 {
		checkAgain(t, r.Intn(2000001)-1000000, r.Intn(2000001)-1000000)
	}
}
