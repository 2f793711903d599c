package dom

import (
	"fmt"
	"math/rand"
	"slices"
	"strings"
	"testing"

	"gouache/api"
)

func TestAttrs(t *testing.T) {
	d := made(t, "r").insert(t, 1, 0, "a")
	a := d.set(t, 2, "id", "x").set(t, 2, "class", "p q")
	is(t, "two", show(a, 1), "r1(a2 class=p q id=x())")
	b := a.set(t, 2, "id", "y")
	is(t, "another value", show(b, 1), "r1(a2 class=p q id=y())")
	is(t, "the old one", show(a, 1), "r1(a2 class=p q id=x())")
	is(t, "the first one", show(d, 1), "r1(a2())")
	v, ok := b.Attr(2, "id")
	is(t, "Attr", []any{v, ok}, "[y true]")
	v, ok = a.Attr(2, "id")
	is(t, "Attr of the old one", []any{v, ok}, "[x true]")
	v, ok = b.Attr(1, "id")
	is(t, "Attr of another element", []any{v, ok}, "[ false]")
	v, ok = b.set(t, 2, "id", "").Attr(2, "id")
	is(t, "an empty value", []any{v, ok}, "[ true]")
	c := b.drop(t, 2, "class")
	is(t, "dropped", show(c, 1), "r1(a2 id=y())")
	n, err := c.DropAttr(2, "class")
	refused(t, "dropped twice", c, n, err, api.ErrName)
	n, err = c.DropAttr(1, "id")
	refused(t, "of another element", c, n, err, api.ErrName)
	is(t, "of the root", show(c.set(t, 1, "lang", "en"), 1), "r1 lang=en(a2 id=y())")
	is(t, "the same value makes another tree", show(c.set(t, 2, "id", "y"), 1), show(c, 1))
	is(t, "Len, Next", []int{c.Len(), c.Next()}, "[2 3]")
}

// TestValues: whatever its bytes are, a value of at most 1000 is kept as it is.
func TestValues(t *testing.T) {
	d := made(t, "r")
	for _, v := range []string{"", " ", "\x00", "\xff\xfe", "A\r\n\t", "é", "\"'<>&", strings.Repeat("x", 999), strings.Repeat("x", 1000), strings.Repeat("é", 500), strings.Repeat("\xff", 1000)} {
		got, ok := d.set(t, 1, "a", v).Attr(1, "a")
		if got != v || !ok {
			t.Errorf("value %.20q of %d bytes: %.20q, %v", v, len(v), got, ok)
		}
		n, _ := d.set(t, 1, "a", v).Node(1)
		if len(n.Attrs) != 1 || n.Attrs[0] != (api.Attr{Name: "a", Value: v}) {
			t.Errorf("Node: %.40q", n.Attrs)
		}
	}
	for _, v := range []string{strings.Repeat("x", 1001), strings.Repeat("é", 500) + "x", strings.Repeat("\xff", 1002), strings.Repeat("x", 1<<20)} {
		n, err := d.SetAttr(1, "a", v)
		refused(t, fmt.Sprintf("%d bytes", len(v)), d, n, err, api.ErrText)
		had := d.set(t, 1, "a", "x")
		n, err = had.SetAttr(1, "a", v)
		refused(t, fmt.Sprintf("%d bytes, of one that is there", len(v)), had, n, err, api.ErrText)
	}
}

func TestMaxAttrs(t *testing.T) {
	d := made(t, "r").insert(t, 1, 0, "a")
	for i := range 16 {
		d = d.set(t, 2, fmt.Sprint("a", i), "x")
	}
	long := strings.Repeat("x", 1001)
	n, err := d.SetAttr(2, "b", "y")
	refused(t, "one more", d, n, err, api.ErrLimit)
	n, err = d.SetAttr(2, "a", "y")
	refused(t, "one more, ahead of all", d, n, err, api.ErrLimit)
	n, err = d.SetAttr(2, "b", long)
	refused(t, "one more, and too long", d, n, err, api.ErrText)
	n, err = d.SetAttr(2, "B", long)
	refused(t, "one more, too long, of a name that is none", d, n, err, api.ErrName)
	n, err = d.SetAttr(2, "a7", long)
	refused(t, "one that is there, too long", d, n, err, api.ErrText)
	for i := range 16 {
		name := fmt.Sprint("a", i)
		v, _ := d.set(t, 2, name, "y").Attr(2, name)
		is(t, "one that is there", v, "y")
		less := d.drop(t, 2, name).set(t, 2, "b", "y")
		l, _ := less.Node(2)
		is(t, "another in its place", len(l.Attrs), 16)
		n, err = less.SetAttr(2, name, "x")
		refused(t, "that one again", less, n, err, api.ErrLimit)
	}
	is(t, "of another element", show(d.set(t, 1, "b", "y").remove(t, 2), 1), "r1 b=y()")
}

// TestAttrOrder: by the bytes of their names, whatever order they were set in.
func TestAttrOrder(t *testing.T) {
	names := []string{"a", "a-", "a-b", "a0", "a9", "a_", "aa", "ab", "b", "b-", "ba", "class", "id", "z", "z-z", "zz"}
	want := ""
	for _, s := range names {
		want += " " + s + "=" + s
	}
	for seed := range int64(200) {
		d := made(t, "r")
		order := rand.New(rand.NewSource(seed)).Perm(len(names))
		for _, i := range order {
			d = d.set(t, 1, names[i], "first").set(t, 1, names[i], names[i])
		}
		is(t, fmt.Sprint("in the order ", order), show(d, 1), "r1"+want+"()")
		for _, i := range order {
			d = d.drop(t, 1, names[i])
			n, _ := d.Node(1)
			if !slices.IsSortedFunc(n.Attrs, func(a, b api.Attr) int { return strings.Compare(a.Name, b.Name) }) {
				t.Fatalf("without %s: %v", names[i], n.Attrs)
			}
		}
		is(t, "all dropped", show(d, 1), "r1()")
	}
}
