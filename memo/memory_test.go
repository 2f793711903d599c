package memo

import (
	"fmt"
	"math/rand"
	"slices"
	"testing"
)

// spoil: a list is written over, with the room behind it.
func spoil(l []string) {
	l = l[:cap(l)]
	for i := range l {
		l[i] = "spoilt"
	}
}

// roomy: a style with others in the room behind its end.
func roomy(style ...string) []string {
	return append(slices.Clip(style), "room", "room", "room")[:len(style)]
}

// asked: all that a table tells of an entry that stands in a cell.
func asked(m *Table, i int, e Entry) []any {
	return []any{loaded(m.Load(i)), got(m.Get(e.Epoch, e.Node))}
}

// kept: what is told of an entry as it was put.
func kept(e Entry) []any { return []any{loaded(e, true), got(e.Style, true)} }

// styles: with nothing, one and many in them, and such as an append finds room in.
func styles() [][]string {
	return [][]string{nil, {}, {""}, {"a"}, {"a", "b"}, {"a", "b", "c"}, slices.Repeat([]string{"x"}, 45), slices.Repeat([]string{"y"}, 1000)}
}

// TestPutKeepsACopy: a style that is changed behind Put, or behind Cas, with its room, is told as it was put.
func TestPutKeepsACopy(t *testing.T) {
	for n, style := range styles() {
		m := New(2)
		put, swapped := of(0, 0, roomy(style...)...), of(0, 1, roomy(style...)...)
		is(t, "Put and Cas", []bool{m.Put(put), m.Cas(1, swapped)}, []bool{true, true})
		spoil(put.Style)
		spoil(swapped.Style)
		is(t, fmt.Sprint("behind Put ", n), asked(m, 0, of(0, 0)), kept(of(0, 0, style...)))
		is(t, fmt.Sprint("behind Cas ", n), asked(m, 1, of(0, 1)), kept(of(0, 1, style...)))
	}
}

// TestGetTellsNewMemory: an answer that is changed, with its room, changes nothing of the table, and of no other answer.
func TestGetTellsNewMemory(t *testing.T) {
	for n, style := range styles() {
		m := New(3)
		m.Put(of(0, 0, style...))
		first, _ := m.Get(0, 0)
		second, _ := m.Get(0, 0)
		third, _ := m.Load(0)
		fourth, _ := m.Load(0)
		spoil(first)
		spoil(third.Style)
		is(t, fmt.Sprint("the others ", n), []any{second, fourth.Style}, []any{slices.Clone(style), slices.Clone(style)})
		is(t, fmt.Sprint("the table ", n), asked(m, 0, of(0, 0)), kept(of(0, 0, style...)))
		_ = append(second, "more")
		_ = append(fourth.Style, "more")
		fifth, _ := m.Get(0, 0)
		is(t, fmt.Sprint("what is behind ", n), slices.Contains(fifth[:cap(fifth)], "more"), false)
	}
}

// TestNothingIsChanged: neither a style that is handed in nor what lies behind its end, be it put or refused.
func TestNothingIsChanged(t *testing.T) {
	for n, style := range styles() {
		e := of(3, 4, roomy(style...)...)
		all := e.Style[:cap(e.Style)]
		before := slices.Clone(all)
		m := New(2)
		m.Put(e)
		m.Put(e)
		m.Cas(0, e)
		m.Cas(1, e)
		m.Cas(7, e)
		m.Get(3, 4)
		New(0).Put(e)
		m.Clear()
		is(t, fmt.Sprint("style ", n), all, before)
	}
}

// TestRoomIsNotKept: what lies behind a style's end is not told, nor in an answer's room.
func TestRoomIsNotKept(t *testing.T) {
	for n, style := range styles() {
		m := New(1)
		m.Put(of(1, 1, roomy(style...)...))
		told, _ := m.Get(1, 1)
		entry, _ := m.Load(0)
		is(t, fmt.Sprint("Get ", n), []any{len(told), slices.Contains(told[:cap(told)], "room")}, []any{len(style), false})
		is(t, fmt.Sprint("Load ", n), []any{len(entry.Style), slices.Contains(entry.Style[:cap(entry.Style)], "room")}, []any{len(style), false})
	}
}

// TestAnswersStay: what was told stays as it was, whatever is done with the table.
func TestAnswersStay(t *testing.T) {
	m := New(2)
	m.Put(of(1, 1, "a", "b"))
	style, _ := m.Get(1, 1)
	e, _ := m.Load(0)
	m.Clear()
	m.Put(of(1, 1, "c", "d"))
	is(t, "told", []any{style, e.Epoch, e.Node, e.Style}, []any{[]string{"a", "b"}, 1, 1, []string{"a", "b"}})
	is(t, "now", got(m.Get(1, 1)), got([]string{"c", "d"}, true))
}

// TestOneStyleForMany: a style that is put for many is each one's own.
func TestOneStyleForMany(t *testing.T) {
	m, style := New(40), []string{"a", "b"}
	for n := range 40 {
		style[0] = fmt.Sprint(n)
		m.Put(Entry{0, n, style})
	}
	for n := range 40 {
		is(t, "Get", got(m.Get(0, n)), got([]string{fmt.Sprint(n), "b"}, true))
	}
}

// TestSpoiltByChance: whatever was handed in and told is spoilt behind each call, and the answers stay the second telling's.
func TestSpoiltByChance(t *testing.T) {
	for seed := range int64(1000) {
		r := rand.New(rand.NewSource(seed))
		size := 1 + r.Intn(6)
		m, o := New(size), oNew(size)
		for n := range 40 {
			e := Entry{r.Intn(2), r.Intn(6), roomy(style(r)...)}
			i := r.Intn(size)
			if r.Intn(3) > 0 {
				is(t, fmt.Sprint(seed, n, " Put"), m.Put(e), o.put(e))
			} else {
				is(t, fmt.Sprint(seed, n, " Cas"), m.Cas(i, e), o.cas(i, e))
			}
			spoil(e.Style)
			a, ok := m.Get(e.Epoch, e.Node)
			is(t, fmt.Sprint(seed, n, " Get"), got(a, ok), got(o.get(e.Epoch, e.Node)))
			b, ok := m.Load(i)
			is(t, fmt.Sprint(seed, n, " Load"), loaded(b, ok), loaded(o.load(i)))
			spoil(a)
			spoil(b.Style)
			if r.Intn(25) == 0 {
				m.Clear()
				o.clear()
			}
		}
	}
}
