package dom

import (
	"fmt"
	"math"
	"strings"
	"testing"

	"gouache/api"
)

func is(t *testing.T, what string, got, want any) {
	t.Helper()
	if fmt.Sprint(got) != fmt.Sprint(want) {
		t.Errorf("%s: %v, want %v", what, got, want)
	}
}

// made: a new tree.
func made(t *testing.T, tag string) *Doc {
	t.Helper()
	d, err := New(tag)
	if d == nil || err != api.OK {
		t.Fatalf("New(%q): %v", tag, err)
	}
	return d
}

// insert, remove, move, set and drop: calls that must go well, and make another tree.
func (d *Doc) insert(t *testing.T, parent, index int, tag string) *Doc {
	t.Helper()
	next, id, err := d.Insert(parent, index, tag)
	if err != api.OK || next == d || id != d.Next() {
		t.Fatalf("Insert(%d, %d, %q): %d, %v, the same one: %v", parent, index, tag, id, err, next == d)
	}
	return next
}

func well(t *testing.T, d, next *Doc, err api.Errno) *Doc {
	t.Helper()
	if err != api.OK || next == d || next == nil {
		t.Fatalf("%v, the same one: %v, none: %v", err, next == d, next == nil)
	}
	return next
}

func (d *Doc) remove(t *testing.T, id int) *Doc {
	t.Helper()
	next, err := d.Remove(id)
	return well(t, d, next, err)
}

func (d *Doc) move(t *testing.T, id, parent, index int) *Doc {
	t.Helper()
	next, err := d.Move(id, parent, index)
	return well(t, d, next, err)
}

func (d *Doc) set(t *testing.T, id int, name, value string) *Doc {
	t.Helper()
	next, err := d.SetAttr(id, name, value)
	return well(t, d, next, err)
}

func (d *Doc) drop(t *testing.T, id int, name string) *Doc {
	t.Helper()
	next, err := d.DropAttr(id, name)
	return well(t, d, next, err)
}

// refused: a call that must answer the same tree, and an error.
func refused(t *testing.T, what string, d, next *Doc, err, want api.Errno) {
	t.Helper()
	if next != d || err != want {
		t.Errorf("%s: %v, want %v; the same one: %v", what, err, want, next == d)
	}
}

func kids(d *Doc, id int) string {
	n, _ := d.Node(id)
	return fmt.Sprint(n.Kids)
}

// show: how a tree looks: a tag and a number, attributes, and what is in it, in brackets.
func show(d *Doc, id int) string {
	n, ok := d.Node(id)
	if !ok {
		return fmt.Sprint("no ", id)
	}
	s := fmt.Sprint(n.Tag, n.Id)
	for _, a := range n.Attrs {
		s += fmt.Sprintf(" %s=%s", a.Name, a.Value)
	}
	var l []string
	for _, k := range n.Kids {
		l = append(l, show(d, k))
	}
	return s + "(" + strings.Join(l, " ") + ")"
}

func TestExample(t *testing.T) {
	d := made(t, "a").insert(t, 1, 0, "b").insert(t, 1, 0, "c")
	is(t, "Kids of 1", kids(d, 1), "[3 2]")
	m := d.move(t, 3, 2, 0)
	is(t, "behind Move", show(m, 1), "a1(b2(c3()))")
	n, err := m.Move(2, 3, 0)
	refused(t, "Move(2, 3, 0)", m, n, err, api.ErrHierarchy)
	is(t, "the old one", show(d, 1), "a1(c3() b2())")
}

func TestNew(t *testing.T) {
	d := made(t, "html")
	is(t, "Len, Next", []int{d.Len(), d.Next()}, "[1 2]")
	n, ok := d.Node(1)
	is(t, "the root", showNode(n, ok), `1 "html" 0 [] [] true`)
	is(t, "others", []string{show(d, 0), show(d, 2), show(d, -1)}, "[no 0 no 2 no -1]")
}

var badNames = []string{"", "A", "aB", "1a", "-a", "_a", " a", "a ", "a b", "a.b", "é", "aé", "a\x00", "\xff", "a\xff", "*", strings.Repeat("a", 65), strings.Repeat("a", 1<<16)}
var goodNames = []string{"a", "z9", "a-", "a_b", "data-x", strings.Repeat("a", 64)}

func TestNames(t *testing.T) {
	d := made(t, "r")
	for _, s := range badNames {
		none, err := New(s)
		if none != nil || err != api.ErrName {
			t.Errorf("New(%.20q): %v, none: %v", s, err, none == nil)
		}
		next, id, err := d.Insert(1, 0, s)
		refused(t, "Insert", d, next, err, api.ErrName)
		is(t, "its number", id, 0)
		next, err = d.SetAttr(1, s, "x")
		refused(t, "SetAttr", d, next, err, api.ErrName)
		next, err = d.DropAttr(1, s)
		refused(t, "DropAttr", d, next, err, api.ErrName)
		v, ok := d.Attr(1, s)
		is(t, "Attr", []any{v, ok}, "[ false]")
	}
	for _, s := range goodNames {
		is(t, "New", show(made(t, s), 1), s+"1()")
		is(t, "Insert", show(d.insert(t, 1, 0, s), 1), "r1("+s+"2())")
		is(t, "SetAttr", show(d.set(t, 1, s, "x"), 1), "r1 "+s+"=x()")
		is(t, "DropAttr", show(d.set(t, 1, s, "x").drop(t, 1, s), 1), "r1()")
	}
}

var farIndices = []int{-1, -2, math.MinInt, math.MinInt32, math.MaxInt, math.MaxInt32, 1 << 32, -1 << 32, 1<<32 + 1, 1 << 20}

func TestInsertIndex(t *testing.T) {
	d := made(t, "r")
	for count := range 6 {
		for index := range count + 1 {
			n := d.insert(t, 1, index, "x")
			var want []int
			for _, k := range kidsOf(d, 1)[:index] {
				want = append(want, k)
			}
			want = append(append(want, d.Next()), kidsOf(d, 1)[index:]...)
			is(t, fmt.Sprintf("%d among %d", index, count), kidsOf(n, 1), want)
		}
		for _, index := range append(farIndices, count+1, count+2) {
			n, id, err := d.Insert(1, index, "x")
			refused(t, fmt.Sprintf("Insert(1, %d)", index), d, n, err, api.ErrIndex)
			is(t, "its number", id, 0)
		}
		d = d.insert(t, 1, count/2, "k")
	}
}

func kidsOf(d *Doc, id int) []int {
	n, _ := d.Node(id)
	return n.Kids
}

// TestMoveWithin: to each index among its own Parent's Kids, counted without the element itself.
func TestMoveWithin(t *testing.T) {
	d := made(t, "r")
	for i := range 4 {
		d = d.insert(t, 1, i, "k")
	}
	want := map[int][]string{
		2: {"[2 3 4 5]", "[3 2 4 5]", "[3 4 2 5]", "[3 4 5 2]"},
		3: {"[3 2 4 5]", "[2 3 4 5]", "[2 4 3 5]", "[2 4 5 3]"},
		4: {"[4 2 3 5]", "[2 4 3 5]", "[2 3 4 5]", "[2 3 5 4]"},
		5: {"[5 2 3 4]", "[2 5 3 4]", "[2 3 5 4]", "[2 3 4 5]"},
	}
	for id, l := range want {
		for index, s := range l {
			is(t, fmt.Sprintf("Move(%d, 1, %d)", id, index), kids(d.move(t, id, 1, index), 1), s)
		}
		for _, index := range append(farIndices, 4, 5) {
			n, err := d.Move(id, 1, index)
			refused(t, fmt.Sprintf("Move(%d, 1, %d)", id, index), d, n, err, api.ErrIndex)
		}
	}
	is(t, "the old one", kids(d, 1), "[2 3 4 5]")
}

// TestMoveElsewhere: to each index of another one; what is below it and its attributes come with it.
func TestMoveElsewhere(t *testing.T) {
	d := made(t, "r").insert(t, 1, 0, "a").insert(t, 1, 1, "b").insert(t, 2, 0, "c").insert(t, 2, 1, "d").insert(t, 3, 0, "e").set(t, 3, "id", "x")
	is(t, "ahead", show(d, 1), "r1(a2(c4() d5()) b3 id=x(e6()))")
	for index, s := range []string{"r1(a2(b3 id=x(e6()) c4() d5()))", "r1(a2(c4() b3 id=x(e6()) d5()))", "r1(a2(c4() d5() b3 id=x(e6())))"} {
		is(t, "Move", show(d.move(t, 3, 2, index), 1), s)
	}
	for _, index := range append(farIndices, 3) {
		n, err := d.Move(3, 2, index)
		refused(t, fmt.Sprintf("Move(3, 2, %d)", index), d, n, err, api.ErrIndex)
	}
	is(t, "below another's Kid", show(d.move(t, 3, 5, 0), 1), "r1(a2(c4() d5(b3 id=x(e6()))))")
	is(t, "to the root", show(d.move(t, 6, 1, 1), 1), "r1(a2(c4() d5()) e6() b3 id=x())")
	is(t, "up by one", show(d.move(t, 4, 1, 2), 1), "r1(a2(d5()) b3 id=x(e6()) c4())")
	is(t, "Len, Next", []int{d.move(t, 3, 2, 0).Len(), d.move(t, 3, 2, 0).Next()}, "[6 7]")
}

func TestMoveHierarchy(t *testing.T) {
	d := made(t, "r").insert(t, 1, 0, "a").insert(t, 2, 0, "b").insert(t, 3, 0, "c").insert(t, 1, 1, "d")
	for _, m := range [][2]int{{1, 1}, {1, 2}, {1, 4}, {1, 5}, {2, 2}, {2, 3}, {2, 4}, {3, 3}, {3, 4}, {4, 4}, {5, 5}} {
		for _, index := range append(farIndices, 0, 1, 2) {
			n, err := d.Move(m[0], m[1], index)
			refused(t, fmt.Sprintf("Move(%d, %d, %d)", m[0], m[1], index), d, n, err, api.ErrHierarchy)
		}
	}
	n, err := d.Remove(1)
	refused(t, "Remove(1)", d, n, err, api.ErrHierarchy)
	lone := made(t, "r")
	n, err = lone.Remove(1)
	refused(t, "Remove(1) of one alone", lone, n, err, api.ErrHierarchy)
	n, err = lone.Move(1, 1, 0)
	refused(t, "Move(1, 1, 0) of one alone", lone, n, err, api.ErrHierarchy)
}

func TestRemove(t *testing.T) {
	d := made(t, "r").insert(t, 1, 0, "a").insert(t, 2, 0, "b").insert(t, 3, 0, "c").insert(t, 1, 1, "d").insert(t, 1, 2, "e").set(t, 4, "id", "x")
	is(t, "ahead", show(d, 1), "r1(a2(b3(c4 id=x())) d5() e6())")
	tests := []struct {
		id, left int
		want     string
		gone     []int
	}{
		{2, 3, "r1(d5() e6())", []int{2, 3, 4}},
		{3, 4, "r1(a2() d5() e6())", []int{3, 4}},
		{4, 5, "r1(a2(b3()) d5() e6())", []int{4}},
		{5, 5, "r1(a2(b3(c4 id=x())) e6())", []int{5}},
		{6, 5, "r1(a2(b3(c4 id=x())) d5())", []int{6}},
	}
	for _, x := range tests {
		r := d.remove(t, x.id)
		is(t, fmt.Sprintf("Remove(%d)", x.id), show(r, 1), x.want)
		is(t, "Len, Next", []int{r.Len(), r.Next()}, []int{x.left, 7})
		for _, id := range x.gone {
			n, ok := r.Node(id)
			is(t, "what is gone", showNode(n, ok), showNode(api.Node{}, false))
			v, ok := r.Attr(id, "id")
			is(t, "its attribute", []any{v, ok}, "[ false]")
			again, err := r.Remove(id)
			refused(t, "Remove again", r, again, err, api.ErrNoNode)
			again, err = r.Move(id, 1, 0)
			refused(t, "Move of it", r, again, err, api.ErrNoNode)
		}
	}
	is(t, "the old one", show(d, 1), "r1(a2(b3(c4 id=x())) d5() e6())")
}

// TestNumbersOnce: a number is never used twice, whatever was removed; trees that are made of one tree count by themselves.
func TestNumbersOnce(t *testing.T) {
	d := made(t, "r")
	seen := map[int]bool{1: true}
	for i := range 50 {
		next, id, err := d.Insert(1, 0, "a")
		if err != api.OK || seen[id] || id != d.Next() || next.Next() != id+1 {
			t.Fatalf("%d: number %d again or not the next one (%v)", i, id, err)
		}
		seen[id] = true
		d = next
		if i%3 > 0 {
			d = d.remove(t, id)
		}
		is(t, "Next behind it", d.Next(), id+1)
	}
	a, b := d.insert(t, 1, 0, "a"), d.insert(t, 1, 0, "b")
	is(t, "two of one", []int{a.Next(), b.Next(), d.Next()}, "[53 53 52]")
	is(t, "each has its own", []string{show(a, 52), show(b, 52), show(d, 52)}, "[a52() b52() no 52]")
}

func TestNoNode(t *testing.T) {
	d := made(t, "r").insert(t, 1, 0, "a").insert(t, 1, 0, "b").remove(t, 2).set(t, 3, "id", "x")
	long := strings.Repeat("x", 1001)
	for _, id := range []int{0, -1, -3, 2, 4, 5, 16, 1<<20 - 1, 1 << 20, 1<<20 + 1, 1<<20 + 3, 1<<32 + 1, 1<<32 + 3, math.MaxInt, math.MinInt, math.MinInt + 1} {
		what := fmt.Sprint("of ", id)
		n, ok := d.Node(id)
		is(t, what, showNode(n, ok), showNode(api.Node{}, false))
		for _, name := range []string{"id", ""} {
			v, ok := d.Attr(id, name)
			is(t, what, []any{v, ok}, "[ false]")
			next, err := d.SetAttr(id, name, long)
			refused(t, "SetAttr "+what, d, next, err, api.ErrNoNode)
			next, err = d.DropAttr(id, name)
			refused(t, "DropAttr "+what, d, next, err, api.ErrNoNode)
			next, number, err := d.Insert(id, -1, name)
			refused(t, "Insert "+what, d, next, err, api.ErrNoNode)
			is(t, "its number", number, 0)
		}
		next, err := d.Remove(id)
		refused(t, "Remove "+what, d, next, err, api.ErrNoNode)
		for _, other := range []int{1, 3, id, 0} {
			next, err = d.Move(id, other, -1)
			refused(t, "Move "+what, d, next, err, api.ErrNoNode)
			next, err = d.Move(other, id, -1)
			refused(t, "Move to what is none "+what, d, next, err, api.ErrNoNode)
		}
	}
	is(t, "behind it", show(d, 1), "r1(b3 id=x())")
}

// TestUnmade: a tree that no call made changes nothing, and answers itself.
func TestUnmade(t *testing.T) {
	for what, d := range map[string]*Doc{"nil": nil, "zero": {}} {
		for _, id := range []int{0, 1, -1, 2, 1 << 20, math.MaxInt, math.MinInt} {
			n, ok := d.Node(id)
			is(t, what, showNode(n, ok), showNode(api.Node{}, false))
			for _, name := range []string{"", "a", "A"} {
				v, ok := d.Attr(id, name)
				is(t, what, []any{v, ok}, "[ false]")
				next, number, err := d.Insert(id, id, name)
				refused(t, what, d, next, err, api.ErrMade)
				is(t, what, number, 0)
				next, err = d.SetAttr(id, name, name)
				refused(t, what, d, next, err, api.ErrMade)
				next, err = d.DropAttr(id, name)
				refused(t, what, d, next, err, api.ErrMade)
			}
			next, err := d.Remove(id)
			refused(t, what, d, next, err, api.ErrMade)
			next, err = d.Move(id, id, id)
			refused(t, what, d, next, err, api.ErrMade)
		}
		is(t, what, []int{d.Len(), d.Next()}, "[0 0]")
	}
}

func TestWords(t *testing.T) {
	tests := []struct {
		s    string
		want []string
	}{
		{"", nil},
		{" ", nil},
		{" \t\n \n\t", nil},
		{"a", []string{"a"}},
		{"a b", []string{"a", "b"}},
		{"a\tb\nc", []string{"a", "b", "c"}},
		{"  a \t\n b\n\n", []string{"a", "b"}},
		{"\na\n", []string{"a"}},
		{"a a A", []string{"a", "a", "A"}},
		// These are no Blanks of text, though others call them so.
		{"a\rb\fc\vd\u00a0e\u0085f\u2003g\x00h", []string{"a\rb\fc\vd\u00a0e\u0085f\u2003g\x00h"}},
		{"\r \f \v \u00a0 \u3000", []string{"\r", "\f", "\v", "\u00a0", "\u3000"}},
		{"é ü\tß", []string{"é", "ü", "ß"}},
		// Bytes with which no character begins stay as they are.
		{"\xff \xc3\t\xe2\x82\n\x80a", []string{"\xff", "\xc3", "\xe2\x82", "\x80a"}},
		{"a,b;c.d #e", []string{"a,b;c.d", "#e"}},
	}
	for _, x := range tests {
		if got := Words(x.s); fmt.Sprintf("%q", got) != fmt.Sprintf("%q", x.want) {
			t.Errorf("Words(%q): %q, want %q", x.s, got, x.want)
		}
	}
	for c := range rune(0x3100) {
		blank := c == ' ' || c == '\t' || c == '\n'
		if got := Words("a" + string(c) + "b"); len(got) == 2 != blank || strings.Join(got, string(c)) != "a"+string(c)+"b" {
			t.Errorf("Words with U+%04X: %q", c, got)
		}
	}
	big := strings.Repeat("a \t", 1<<18)
	is(t, "many", len(Words(big)), 1<<18)
}

// TestWordsAll: all texts of up to six of five characters, against a second telling, character by character.
func TestWordsAll(t *testing.T) {
	each(t, []string{"a", "b", " ", "\t", "\n"}, 6, func(s string) {
		var want []string
		word := ""
		for _, c := range []byte(s + " ") {
			if c == 'a' || c == 'b' {
				word += string(rune(c))
			} else if word != "" {
				want, word = append(want, word), ""
			}
		}
		if got := Words(s); fmt.Sprintf("%q", got) != fmt.Sprintf("%q", want) {
			t.Errorf("Words(%q): %q, want %q", s, got, want)
		}
	})
}

// each: all texts of at most so many parts.
func each(t *testing.T, parts []string, most int, tell func(string)) {
	l := []string{""}
	for range most + 1 {
		var next []string
		for _, s := range l {
			tell(s)
			for _, p := range parts {
				next = append(next, s+p)
			}
		}
		l = next
	}
}
