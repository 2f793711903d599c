package trie

import (
	"errors"
	"fmt"
	"math"
	"slices"
	"sync"
	"testing"
)

// show: how a trie of texts looks: what is there, Len and Nodes.
func show(t *Trie[string]) string {
	s := ""
	for n, v := range t.All() {
		s += fmt.Sprintf("%d=%s ", n, v)
	}
	return fmt.Sprintf("%s%d/%d", s, t.Len(), t.Nodes())
}

func is(t *testing.T, what string, got, want any) {
	t.Helper()
	if fmt.Sprint(got) != fmt.Sprint(want) {
		t.Errorf("%s: %v, want %v", what, got, want)
	}
}

func TestPutAndGet(t *testing.T) {
	e := New[string]()
	a := e.Put(1, "a")
	b := a.Put(2, "b")
	is(t, "empty", show(e), "0/1")
	is(t, "one", show(a), "1=a 1/5")
	is(t, "two", show(b), "1=a 2=b 2/5")
	is(t, "Fresh", []int{Fresh(e, a), Fresh(a, b), Fresh(e, b), Fresh(b, a), Fresh(a, e)}, "[5 5 5 5 1]")
	v, ok := b.Get(2)
	is(t, "Get(2)", []any{v, ok}, "[b true]")
	v, ok = a.Get(2)
	is(t, "Get(2) of the old one", []any{v, ok}, "[ false]")
}

func TestEnds(t *testing.T) {
	l := New[string]().Put(0, "low").Put(1<<20-1, "high")
	is(t, "both ends", show(l), "0=low 1048575=high 2/9")
	is(t, "without 0", show(l.Drop(0)), "1048575=high 1/5")
	is(t, "without 2^20 - 1", show(l.Drop(1<<20-1)), "0=low 1/5")
	// Each of them would be 0 or 2^20 - 1, if only twenty, or thirty-two, of its bits were looked at.
	wrong := []int{-1, -2, -1 << 20, -1<<20 - 1, 1 << 20, 1<<20 + 1, 1<<21 - 1, 1 << 21, 1 << 24, 1<<31 - 1, 1 << 31, -1 << 31, 1 << 32, 1<<32 + 1<<20 - 1, math.MaxInt, math.MinInt, math.MinInt + 1}
	for _, n := range wrong {
		for _, from := range []*Trie[string]{l, New[string](), {}, nil} {
			before := show(from)
			v, ok := from.Get(n)
			is(t, fmt.Sprintf("Get(%d)", n), []any{v, ok}, "[ false]")
			if from.Put(n, "x") != from || from.Drop(n) != from {
				t.Errorf("Put or Drop of %d is not the trie itself", n)
			}
			is(t, fmt.Sprintf("behind %d", n), show(from), before)
		}
	}
}

func TestPutTwice(t *testing.T) {
	a := New[string]().Put(9, "a").Put(0x90009, "z")
	for _, v := range []string{"a", "b", ""} {
		b := a.Put(9, v)
		is(t, "put again", show(b), "9="+v+" 589833=z 2/9")
		is(t, "Fresh of it", []int{Fresh(a, b), Fresh(b, a)}, "[5 5]")
	}
	is(t, "the old one", show(a), "9=a 589833=z 2/9")
}

func TestDrop(t *testing.T) {
	a := New[string]().Put(5, "a").Put(6, "b").Put(0x10005, "c")
	is(t, "all", show(a), "5=a 6=b 65541=c 3/9")
	tests := []struct {
		n     int
		want  string
		fresh int
	}{
		{5, "6=b 65541=c 2/9", 5},
		{6, "5=a 65541=c 2/9", 5},
		{0x10005, "5=a 6=b 2/5", 1},
		{7, "5=a 6=b 65541=c 3/9", 0},
		{0x10006, "5=a 6=b 65541=c 3/9", 0},
		{0x20005, "5=a 6=b 65541=c 3/9", 0},
		{0, "5=a 6=b 65541=c 3/9", 0},
	}
	for _, x := range tests {
		b := a.Drop(x.n)
		is(t, fmt.Sprintf("Drop(%x)", x.n), show(b), x.want)
		is(t, fmt.Sprintf("Fresh of Drop(%x)", x.n), Fresh(a, b), x.fresh)
		is(t, fmt.Sprintf("Drop(%x) tells itself", x.n), b == a, x.fresh == 0)
		if b.Drop(x.n) != b {
			t.Errorf("Drop(%x) twice is another one", x.n)
		}
	}
	is(t, "the old one", show(a), "5=a 6=b 65541=c 3/9")
}

func TestDropTheLast(t *testing.T) {
	for _, n := range []int{0, 1, 0x12345, 1<<20 - 1} {
		a := New[string]().Put(n, "a")
		e := a.Drop(n)
		is(t, "empty again", show(e), "0/1")
		is(t, "Fresh", []int{Fresh(a, e), Fresh(e, a), Fresh(e, New[string]()), Fresh(New[string](), e), Fresh(e, e)}, "[1 5 1 1 0]")
		is(t, "Drop of nothing", e.Drop(n) == e, true)
		is(t, "put again", show(e.Put(n, "b")), fmt.Sprintf("%d=b 1/5", n))
		is(t, "the old one", show(a), fmt.Sprintf("%d=a 1/5", n))
	}
}

// TestParts: two numbers that part in each of the five parts, by every two digits there.
func TestParts(t *testing.T) {
	for place := range 5 {
		for i := range 16 {
			for j := range 16 {
				shift := 16 - 4*place
				m := 0xa5c3e &^ (15 << shift)
				a := New[string]().Put(m|i<<shift, "a")
				b := a.Put(m|j<<shift, "b")
				what := fmt.Sprintf("place %d, %x and %x", place, i, j)
				if i == j {
					is(t, what, []int{b.Len(), b.Nodes(), Fresh(a, b)}, "[1 5 5]")
					continue
				}
				is(t, what, []int{b.Len(), b.Nodes(), Fresh(a, b)}, []int{2, 9 - place, 5})
				c := b.Drop(m | i<<shift)
				is(t, what+", dropped", []int{c.Len(), c.Nodes(), Fresh(b, c), Fresh(a, c)}, []int{1, 5, place + 1, 5})
				v, ok := c.Get(m | j<<shift)
				is(t, what+", Get", []any{v, ok}, "[b true]")
			}
		}
	}
}

func TestFresh(t *testing.T) {
	e, f := New[string](), New[string]()
	is(t, "of one empty one", Fresh(e, e), 0)
	is(t, "of two empty ones", []int{Fresh(e, f), Fresh(f, e)}, "[1 1]")
	a := e.Put(3, "a").Put(0x30000, "b")
	is(t, "of one", Fresh(a, a), 0)
	is(t, "with an empty one", []int{Fresh(e, a), Fresh(a, e), Fresh(f, a), Fresh(a, f)}, "[9 1 9 1]")
	b := f.Put(3, "a").Put(0x30000, "b")
	is(t, "of two that look alike and share nothing", []int{Fresh(a, b), Fresh(b, a)}, "[9 9]")
	c, d := a.Put(4, "c"), a.Put(0x30001, "d")
	is(t, "of two that were made of one", []int{Fresh(c, d), Fresh(d, c)}, "[9 9]")
	is(t, "of one to what is made of it", []int{Fresh(a, c), Fresh(a, d), Fresh(a, c.Put(0x30001, "d")), Fresh(a, c.Put(5, "d"))}, "[5 5 9 5]")
	is(t, "where numbers are fewer", []int{Fresh(c, a), Fresh(a, a.Drop(3)), Fresh(a.Drop(3), a)}, "[5 1 5]")
}

func TestOlderOnesStay(t *testing.T) {
	made := []*Trie[string]{New[string]()}
	looks := []string{"0/1"}
	for i := range 300 {
		last := made[len(made)-1]
		next := last.Put(i*3571%4099*251, fmt.Sprint(i))
		if i%5 == 4 {
			next = last.Drop((i - 2) * 3571 % 4099 * 251)
			is(t, "Drop makes another one", next != last, true)
		}
		if f := Fresh(last, next); i%5 == 4 && (f < 1 || f > 5) || i%5 < 4 && f != 5 {
			t.Errorf("step %d: Fresh %d", i, f)
		}
		made, looks = append(made, next), append(looks, show(next))
	}
	for i, x := range made {
		is(t, fmt.Sprintf("trie %d", i), show(x), looks[i])
	}
}

// orders: all orders of a list.
func orders(l []int, tell func([]int)) {
	if len(l) == 0 {
		tell(nil)
		return
	}
	for i := range l {
		rest := slices.Delete(slices.Clone(l), i, i+1)
		orders(rest, func(m []int) { tell(append([]int{l[i]}, m...)) })
	}
}

func TestOrderDoesNotMatter(t *testing.T) {
	numbers := []int{0, 1, 0x10, 0x12345, 0x12346, 1<<20 - 1}
	orders(numbers, func(l []int) {
		now, less := New[string](), New[string]()
		for _, n := range l {
			now = now.Put(n, fmt.Sprint(n))
			less = less.Put(n, "first")
		}
		is(t, fmt.Sprint(l), show(now), "0=0 1=1 16=16 74565=74565 74566=74566 1048575=1048575 6/14")
		for _, n := range l[:3] {
			less = less.Drop(n)
		}
		again := New[string]()
		for _, n := range slices.Backward(l[3:]) {
			again = again.Put(n, "first")
		}
		is(t, fmt.Sprint(l, " less"), show(less), show(again))
	})
}

func TestUnmade(t *testing.T) {
	for what, u := range map[string]*Trie[string]{"nil": nil, "zero": {}} {
		is(t, what, show(u), "0/0")
		v, ok := u.Get(0)
		is(t, what+" Get", []any{v, ok}, "[ false]")
		for _, n := range []int{math.MinInt, -1, 0, 7, 1<<20 - 1, 1 << 20, math.MaxInt} {
			is(t, what+" Drop is itself", u.Drop(n) == u, true)
		}
		a := u.Put(0, "a")
		is(t, what+" Put", show(a), "0=a 1/5")
		is(t, what+" put and dropped", show(a.Drop(0)), "0/1")
		is(t, what+" Fresh", []int{Fresh(u, a), Fresh(a, u), Fresh(u, u), Fresh(nil, u), Fresh(u, nil), Fresh(u, New[string]()), Fresh(New[string](), u)}, "[5 0 0 0 0 1 0]")
		for range u.All() {
			t.Errorf("%s: All tells something", what)
		}
		is(t, what+" behind it", show(u), "0/0")
	}
	is(t, "two zero ones", Fresh(&Trie[string]{}, &Trie[string]{}), 0)
}

// zeros: values that are zero are there all the same.
func zeros[V any](t *testing.T, what string) {
	t.Helper()
	var zero V
	a := New[V]().Put(0, zero).Put(0x54321, zero)
	_, low := a.Get(0)
	_, high := a.Get(0x54321)
	_, none := a.Get(1)
	told := 0
	for range a.All() {
		told++
	}
	is(t, what, []any{low, high, none, told, a.Len(), a.Nodes(), a.Put(0, zero).Len()}, "[true true false 2 2 9 2]")
	b := a.Drop(0)
	_, low = b.Get(0)
	is(t, what+", dropped", []any{low, b.Len(), b.Nodes(), Fresh(a, b), b.Drop(0) == b}, "[false 1 5 1 true]")
}

func TestZeroValues(t *testing.T) {
	zeros[int](t, "int")
	zeros[string](t, "string")
	zeros[bool](t, "bool")
	zeros[struct{}](t, "struct{}")
	zeros[[0]int](t, "no ints")
	zeros[[100]int](t, "many ints")
	zeros[*int](t, "pointer")
	zeros[[]int](t, "slice")
	zeros[map[string]int](t, "map")
	zeros[func()](t, "function")
	zeros[error](t, "error")
	zeros[any](t, "any")
	zeros[*Trie[int]](t, "trie")
}

func TestValuesThatDoNotCompare(t *testing.T) {
	a := New[any]().Put(1, []int{1}).Put(2, func() {}).Put(3, math.NaN()).Put(4, errors.New("four")).Put(4, map[int]int{4: 5})
	v, ok := a.Get(1)
	is(t, "a list", []any{v, ok, a.Len(), a.Nodes()}, "[[1] true 4 5]")
	v, ok = a.Get(4)
	is(t, "a map", []any{v, ok, a.Drop(3).Len(), Fresh(a, a.Put(3, math.NaN()))}, "[map[4:5] true 3 5]")
}

func TestGetTellsACopy(t *testing.T) {
	value := [2]int{1, 2}
	a := New[[2]int]().Put(1, value)
	value[0] = 9
	got, _ := a.Get(1)
	got[1] = 9
	for _, v := range a.All() {
		v[0] = 9
	}
	got, _ = a.Get(1)
	is(t, "behind all changes", got, "[1 2]")
}

// TestMany: what many do at once with one trie does not disturb it.
func TestMany(t *testing.T) {
	from := New[string]()
	for n := range 100 {
		from = from.Put(n*n*101, "x")
	}
	look, made := show(from), make([]string, 8)
	var group sync.WaitGroup
	for i := range made {
		group.Go(func() {
			now := from
			for n := range 100 {
				now = now.Put(n*n*101, "y").Drop(n*n*101).Put(n*n*101, "x")
			}
			made[i] = show(now)
		})
	}
	group.Wait()
	for _, s := range append(made, show(from)) {
		is(t, "of many", s, look)
	}
}
