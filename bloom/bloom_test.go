package bloom

import (
	"fmt"
	"math"
	"math/big"
	"slices"
	"strings"
	"testing"

	"gouache/api"
)

// TestExample: the chapter's.
func TestExample(t *testing.T) {
	is(t, "Needs(a > b + c)", Needs(sel(t, "a > b + c")[0]), []uint32{Key(api.Tag, "a")})
	is(t, "Skip of a b", Skip(Filter{}, sel(t, "a b")[0]), true)
	is(t, "Skip of b", Skip(Filter{}, sel(t, "b")[0]), false)
}

// TestKeySaid: some numbers, reckoned by hand: 2166136261 xor the bytes, times 16777619.
func TestKeySaid(t *testing.T) {
	reckoned := func(bytes ...int64) *big.Int {
		n := big.NewInt(2166136261)
		for _, b := range bytes {
			n.Xor(n, big.NewInt(b))
			n.Mul(n, big.NewInt(16777619))
			n.Mod(n, big.NewInt(1<<32))
		}
		return n
	}
	is(t, "Tag, nothing", Key(api.Tag, ""), reckoned(1))
	is(t, "Tag, nothing", Key(api.Tag, ""), 67918732)
	is(t, "0, nothing", Key(0, ""), 84696351)
	is(t, "Tag a", Key(api.Tag, "a"), reckoned(1, 97))
	is(t, "Tag a", Key(api.Tag, "a"), 1282717207)
	is(t, "Class ab", Key(api.Class, "ab"), reckoned(2, 97, 98))
	is(t, "ID ab", Key(api.ID, "ab"), reckoned(3, 97, 98))
	is(t, "ID é", Key(api.ID, "é"), reckoned(3, 0xc3, 0xa9))
	is(t, "no character", Key(api.ID, "\xff\x80\x00"), reckoned(3, 255, 128, 0))
}

// TestKeyKinds: of a kind its lowest byte counts, below 0 too.
func TestKeyKinds(t *testing.T) {
	for _, name := range []string{"", "a", "\x00", "é", "\xff"} {
		for kind := -600; kind <= 600; kind++ {
			is(t, fmt.Sprintf("Key(%d, %q)", kind, name), Key(kind, name), oKey(kind, name))
		}
		is(t, "1 and 257", Key(1, name), Key(257, name))
		is(t, "1 and -255", Key(1, name), Key(-255, name))
		is(t, "255 and -1", Key(255, name), Key(-1, name))
		is(t, "0 and 256", Key(0, name), Key(256, name))
		is(t, "the least", Key(math.MinInt, name), Key(0, name))
		is(t, "the greatest", Key(math.MaxInt, name), Key(255, name))
		is(t, "1 and 2^32 + 1", Key(1<<32+1, name), Key(1, name))
		if Key(1, name) == Key(2, name) || Key(0, name) == Key(255, name) {
			t.Errorf("%q: kinds with the same key", name)
		}
	}
}

// TestKeyNames: names of all lengths and bytes; what stands in front is not what stands behind.
func TestKeyNames(t *testing.T) {
	for b := range 256 {
		for c := range 256 {
			name := string([]byte{byte(b), byte(c)})
			if Key(api.Class, name) != oKey(api.Class, name) || Key(b, name[1:]) != oKey(b, name[1:]) {
				t.Fatalf("%q", name)
			}
		}
	}
	for _, n := range []int{3, 64, 1000, 65536, 1 << 20} {
		name := strings.Repeat("aé", n)[:n]
		is(t, fmt.Sprint("of length ", n), Key(api.ID, name), oKey(api.ID, name))
	}
	if Key(api.ID, "ab") == Key(api.ID, "ba") || Key(api.ID, "") == Key(api.ID, "\x00") {
		t.Error("names with the same key")
	}
}

// lit1: the bits of a filter, one by one.
func lit1(f Filter) []int {
	var l []int
	for n := range 256 {
		if f[n/64]>>(n%64)&1 == 1 {
			l = append(l, n)
		}
	}
	return l
}

// TestAddBits: each pair of bits, from a filter without any, whatever stands above them in the key.
func TestAddBits(t *testing.T) {
	for low := range 256 {
		for high := range 256 {
			want := []int{min(low, high)}
			if low != high {
				want = append(want, max(low, high))
			}
			for _, top := range []int{0, 0xffff, 0x0100} {
				key := uint32(top<<16 | high<<8 | low)
				f := Add(Filter{}, key)
				if got := lit1(f); !slices.Equal(got, want) {
					t.Fatalf("Add of %x: %v", key, got)
				}
				if !Has(f, key) || Has(Filter{}, key) || Add(f, key) != f {
					t.Fatalf("Has of %x", key)
				}
			}
		}
	}
}

// TestAddEnds: bits at the ends of each item.
func TestAddEnds(t *testing.T) {
	const top = 1 << 63
	for key, want := range map[uint32]Filter{
		0:              {1},
		63:             {1 | top},
		63 | 63<<8:     {top},
		64 | 64<<8:     {0, 1},
		127 | 64<<8:    {0, 1 | top},
		128 | 191<<8:   {0, 0, 1 | top},
		192 | 255<<8:   {0, 0, 0, 1 | top},
		255 | 255<<8:   {0, 0, 0, top},
		255:            {1, 0, 0, top},
		63 | 64<<8:     {top, 1},
		math.MaxUint32: {0, 0, 0, top},
		1 << 16:        {1},
	} {
		is(t, fmt.Sprintf("%x", key), Add(Filter{}, key), want)
	}
}

// TestHas: both bits must be there, one alone is not enough; what is there stays.
func TestHas(t *testing.T) {
	all := Filter{math.MaxUint64, math.MaxUint64, math.MaxUint64, math.MaxUint64}
	for low := range 256 {
		for _, high := range []int{0, 1, 63, 64, 127, 128, 191, 192, 254, 255, low} {
			key := uint32(high<<8 | low)
			for _, bit := range []int{low, high} {
				less := all
				less[bit/64] &^= 1 << (bit % 64)
				if Has(less, key) || Add(less, key) != all && low == high {
					t.Fatalf("%x without %d", key, bit)
				}
				var one Filter
				one[bit/64] = 1 << (bit % 64)
				if Has(one, key) != (low == high) {
					t.Fatalf("%x with %d alone", key, bit)
				}
			}
			if !Has(all, key) || Add(all, key) != all {
				t.Fatalf("%x of all", key)
			}
		}
	}
	m := newMaker(1)
	for range 200 {
		var f Filter
		want := new(big.Int)
		for range m.Intn(120) {
			key := m.Uint32()
			before := f
			f, want = Add(f, key), oAdd(want, key)
			if oFilter(f).Cmp(want) != 0 || before != f && Has(before, key) {
				t.Fatalf("%x and %x: %x", before, key, f)
			}
			other := m.Uint32()
			if Has(f, other) != oHas(want, other) || !Has(f, key) {
				t.Fatalf("%x of %x", other, f)
			}
		}
	}
}

// TestByValue: a filter that is handed in is as it was.
func TestByValue(t *testing.T) {
	f := Add(Filter{}, 7)
	g := Add(f, 9)
	if f != (Filter{129}) || g == f || !Has(g, 7) || Has(f, 9) {
		t.Errorf("%v, %v", f, g)
	}
}

// TestKeys: a tag, an id and classes.
func TestKeys(t *testing.T) {
	o := begin(t, "a")
	is(t, "a tag", Keys(o.doc, 1), []uint32{oKey(1, "a")})
	for _, w := range []struct {
		id, class string
		names     []string // with their Kinds ahead
	}{
		{"x", "", []string{"1a", "3x"}},
		{"", "", []string{"1a", "3"}},
		{"x y", "x", []string{"1a", "3x y", "2x"}},
		{" ", "a", []string{"1a", "3 ", "2a"}},
		{"a", "a a", []string{"1a", "3a", "2a"}},
		{"k", " \t\n", []string{"1a", "3k"}},
		{"k", "x y z", []string{"1a", "3k", "2x", "2y", "2z"}},
		{"k", "z\ty\nx y", []string{"1a", "3k", "2x", "2y", "2z"}},
		{"é", "x\ry \f", []string{"1a", "3é", "2x\ry", "2\f"}},
		{"\xff", "\xff\u00a0b", []string{"1a", "3\xff", "2\xff\u00a0b"}},
	} {
		n := o.set(1, "id", w.id).set(1, "class", w.class).set(1, "ids", "no").set(1, "k", "no")
		m := map[uint32]int{}
		for _, name := range w.names {
			m[oKey(int(name[0]-'0'), name[1:])]++
		}
		is(t, fmt.Sprintf("%q %q", w.id, w.class), Keys(n.doc, 1), rising(m))
		agree(t, "set", n.doc, n.says)
	}
	n := o.set(1, "class", "x y").drop(1, "class")
	is(t, "dropped", Keys(n.doc, 1), Keys(o.doc, 1))
}

// TestKeysRise: names of all lengths, so that their keys stand in other orders than they do.
func TestKeysRise(t *testing.T) {
	words := []string{}
	o := begin(t, "a")
	for i := range 60 {
		words = append(words, fmt.Sprint("w", i*379%1000))
		n := o.set(1, "class", strings.Join(words, " ")+" "+strings.Join(words, " ")).set(1, "id", "w0")
		got := Keys(n.doc, 1)
		if len(got) != i+3 || !slices.IsSorted(got) {
			t.Fatalf("%v", got)
		}
		agree(t, "many", n.doc, n.says)
	}
}

// TestKeysMeet: names of other Kinds that have the same key.
func TestKeysMeet(t *testing.T) {
	const all = 3197160623
	for _, k := range []uint32{Key(api.Tag, "div"), Key(api.Tag, "qvoolyo"), Key(api.Class, "hmybvtb"), Key(api.ID, "ycgdbcg"), Key(api.ID, "pckmiqh")} {
		is(t, "the key of all", k, all)
	}
	o := begin(t, "div").set(1, "class", "hmybvtb hmybvtb").set(1, "id", "ycgdbcg")
	is(t, "all of one key", Keys(o.doc, 1), []uint32{all})
	o = o.set(1, "class", "a hmybvtb b").under(1, "p")
	want := []uint32{all, Key(api.Class, "a"), Key(api.Class, "b")}
	slices.Sort(want)
	is(t, "and others", Keys(o.doc, 1), want)
	is(t, "Needs", Needs(sel(t, "div.hmybvtb#ycgdbcg > qvoolyo#pckmiqh a")[0]), []uint32{all})
	is(t, "Needs of others too", Needs(sel(t, "b div.hmybvtb > .a#ycgdbcg qvoolyo b a")[0]), rising(map[uint32]int{all: 1, oKey(1, "b"): 1, oKey(2, "a"): 1}))
	is(t, "not skipped, as the key is there", Skip(Of(o.doc, 2), sel(t, "qvoolyo p")[0]), false)
	agree(t, "meeting", o.doc, o.says)
}

// TestOf: the root has nothing above; each other one has all above it and not itself, nor those beside it.
func TestOf(t *testing.T) {
	o := begin(t, "r").under(1, "a").under(1, "b").under(2, "c").under(4, "d").set(2, "class", "x y").set(4, "id", "k").set(1, "class", "z")
	added := func(keys ...uint32) Filter {
		var f Filter
		for _, k := range keys {
			f = Add(f, k)
		}
		return f
	}
	r := []uint32{Key(api.Tag, "r"), Key(api.Class, "z")}
	a := append(slices.Clone(r), Key(api.Tag, "a"), Key(api.Class, "x"), Key(api.Class, "y"))
	c := append(slices.Clone(a), Key(api.Tag, "c"), Key(api.ID, "k"))
	for id, want := range map[int]Filter{1: {}, 2: added(r...), 3: added(r...), 4: added(a...), 5: added(c...), 6: {}} {
		if got := Of(o.doc, id); got != want {
			t.Errorf("Of %d: %v, want %v", id, got, want)
		}
	}
	agree(t, "all", o.doc, o.says)
	moved := o.move(4, 3, 0)
	agree(t, "moved", moved.doc, moved.says)
	if Of(moved.doc, 5) == Of(o.doc, 5) {
		t.Error("moved, and the same above")
	}
	agree(t, "the old one", o.doc, o.says)
}

// TestNeeds: what a text needs.
func TestNeeds(t *testing.T) {
	for s, want := range map[string][]string{
		"a":                    nil,
		"a#b.c":                nil,
		"a b":                  {"1a"},
		"a > b":                {"1a"},
		"a + b":                nil,
		"a ~ b":                nil,
		"a > b + c":            {"1a"},
		"a + b > c":            {"1b"},
		"a b > c":              {"1a", "1b"},
		"a b ~ c d + e":        {"1a", "1c"},
		"a ~ b c > d":          {"1b", "1c"},
		"a b + c > d ~ e":      {"1a", "1c"},
		"* b":                  nil,
		"*.x b":                {"2x"},
		"a.x#y b":              {"1a", "2x", "3y"},
		".a#a a > b":           {"1a", "2a", "3a"},
		"a a a a":              {"1a"},
		".x.x > .x":            {"2x"},
		"[k] b":                nil,
		"[a=x].x b":            {"2x"},
		":not(a) b":            nil,
		":is(a b) > c":         nil,
		":where(.x) c":         nil,
		":nth-child(2) b":      nil,
		":nth-last-child(1) c": nil,
		":root > b":            nil,
		":empty b":             nil,
		"a:root:not(c) b":      {"1a"},
		"#x #y #z":             {"3x", "3y"},
		"A.B > C":              {"1a", "2B"},
	} {
		c := sel(t, s)[0]
		m := map[uint32]int{}
		for _, name := range want {
			m[oKey(int(name[0]-'0'), name[1:])]++
		}
		is(t, s, Needs(c), rising(m))
		is(t, s+", skipped", Skip(Filter{}, c), len(want) > 0)
		needs(t, s, Filter{}, c)
	}
}

// TestSkip: one that is not there is enough, whichever.
func TestSkip(t *testing.T) {
	c := sel(t, "a .x > #y + d b")[0]
	keys := []uint32{Key(api.Tag, "a"), Key(api.Class, "x"), Key(api.Tag, "d")}
	for some := range 1 << len(keys) {
		var f Filter
		for i, k := range keys {
			if some>>i&1 == 1 {
				f = Add(f, k)
			}
		}
		is(t, fmt.Sprintf("with %b", some), Skip(f, c), some != 7)
		needs(t, "some", f, c)
	}
	// A key of which one bit is there alone.
	k := Key(api.Tag, "a")
	for _, bit := range []uint32{k % 256, k / 256 % 256} {
		var f Filter
		f[bit/64] = 1 << (bit % 64)
		is(t, "half of it", Skip(f, sel(t, "a b")[0]), true)
	}
}
