package sheet

import (
	"fmt"
	"reflect"
	"runtime"
	"slices"
	"sync"
	"testing"

	"gouache/api"
)

const memoryText = "a,b c>d:not(e,f:is(g h,*)).i#j[k=l]{m:n(o [p] q) r{s};t:u!important;v:w} x{} 1{} :nth-child(odd):only-child{y:z}"

// room: where a list lies, its spare room too.
type room struct {
	from, to uintptr
}

// rooms: those of all lists that a value reaches.
func rooms(v reflect.Value) []room {
	var out []room
	switch v.Kind() {
	case reflect.Slice:
		size := uintptr(v.Cap()) * v.Type().Elem().Size()
		if size > 0 {
			out = append(out, room{v.Pointer(), v.Pointer() + size})
		}
		for i := range v.Len() {
			out = append(out, rooms(v.Index(i))...)
		}
	case reflect.Struct:
		for i := range v.NumField() {
			out = append(out, rooms(v.Field(i))...)
		}
	}
	return out
}

// apart: no list of some answers shares memory with another one.
func apart(t *testing.T, what string, least int, answers ...any) {
	t.Helper()
	var all []room
	for _, a := range answers {
		all = append(all, rooms(reflect.ValueOf(a))...)
	}
	if len(all) < least {
		t.Errorf("%s: only %d lists", what, len(all))
	}
	slices.SortFunc(all, func(a, b room) int {
		if a.from < b.from {
			return -1
		}
		return 1
	})
	for i := 1; i < len(all); i++ {
		if all[i].from < all[i-1].to {
			t.Errorf("%s: two lists share memory", what)
			break
		}
	}
	runtime.KeepAlive(answers)
}

// spoil: everything that a list reaches is written over, the spare room too.
func spoil(v reflect.Value) {
	switch v.Kind() {
	case reflect.Slice:
		full := v.Slice(0, v.Cap())
		for i := range full.Len() {
			spoil(full.Index(i))
		}
	case reflect.Struct:
		for i := range v.NumField() {
			spoil(v.Field(i))
		}
	case reflect.Int:
		v.SetInt(-7)
	case reflect.String:
		v.SetString("spoilt")
	case reflect.Bool:
		v.SetBool(!v.Bool())
	}
}

// spoilAll: all that Sheets tell.
func spoilAll(s *Sheets) {
	spoil(reflect.ValueOf(s.All()))
	spoil(reflect.ValueOf(s.Ids()))
}

// TestAnswersAreApart: no two lists of one answer share memory, nor those of two answers.
func TestAnswersAreApart(t *testing.T) {
	a, _ := Read(memoryText)
	b, _ := Read(memoryText)
	apart(t, "Read", 60, a, b)
	s := New().add(t, 1, memoryText).add(t, 2, memoryText).insert(t, 1, 1, "a:not(b){c:d(e)}").insert(t, 2, 3, "a{}").remove(t, 2, 0)
	next := s.insert(t, 1, 0, "b{c:d}").add(t, 3, memoryText)
	apart(t, "All", 200, s.All(), s.All(), next.All(), next.All())
	apart(t, "Ids", 4, s.Ids(), s.Ids(), next.Ids(), next.Ids())
	for _, x := range []*Sheets{s, next} {
		var kept []any
		for _, one := range x.list {
			kept = append(kept, one.rules)
		}
		apart(t, "what is kept, and All", 100, append(kept, x.All(), x.All())...)
	}
}

// TestAnswersAreNew: who writes into what was answered changes no Sheets, and no other answer.
func TestAnswersAreNew(t *testing.T) {
	a, _ := Read(memoryText)
	b, _ := Read(memoryText)
	before := fmt.Sprintf("%+v", b)
	spoil(reflect.ValueOf(a))
	again, _ := Read(memoryText)
	is(t, "another answer", fmt.Sprintf("%+v", b), before)
	is(t, "read again", fmt.Sprintf("%+v", again), before)
	s := New().add(t, 1, memoryText).add(t, 2, "a{b:c} d{}").add(t, 3, "")
	all := []*Sheets{s, s.add(t, 1, memoryText), s.drop(t, 1), s.drop(t, 3), s.insert(t, 1, 0, "e{f:g}"), s.insert(t, 1, 3, "e{f:g}"), s.insert(t, 3, 0, "e{f:g}"), s.remove(t, 1, 0), s.remove(t, 1, 2), s.remove(t, 2, 1)}
	var looks []string
	for _, x := range all {
		looks = append(looks, whole(x))
	}
	answer, told := s.All(), fmt.Sprintf("%+v", s.All())
	for _, x := range all {
		spoilAll(x)
		for i, y := range all {
			is(t, "Sheets behind a spoilt answer", whole(y), looks[i])
		}
	}
	is(t, "an older answer", fmt.Sprintf("%+v", answer), told)
}

// TestRoomBehind: rules that are put at the end of the same lists do not meet in the room behind them, nor where a list was cut.
func TestRoomBehind(t *testing.T) {
	s := New().add(t, 1, "a{}")
	for i := range 40 {
		many := s.Count(1)
		l := []*Sheets{s.insert(t, 1, many, "x{}"), s.insert(t, 1, many, "y{}"), s.insert(t, 1, many-1, "z{}"), s.insert(t, 1, 0, "w{}"), s.remove(t, 1, many-1), s.remove(t, 1, 0), s.add(t, 1, "v{}"), s.add(t, 1, "u{}"), s.drop(t, 1)}
		before := whole(s)
		var looks []string
		for _, x := range l {
			looks = append(looks, whole(x))
		}
		for _, x := range l[:8] {
			many := x.Count(1)
			x.insert(t, 1, many, "p{}").insert(t, 1, many+1, "q{}")
			x.insert(t, 1, many/2, "r{}").remove(t, 1, many/2)
			x.add(t, 2, "s{}").drop(t, 1).add(t, 3, "t{}")
		}
		for j, x := range l {
			is(t, fmt.Sprintf("%d of %d", j, i), whole(x), looks[j])
		}
		is(t, "what they were made of", whole(s), before)
		s = s.insert(t, 1, many, fmt.Sprintf("b{c:%d}", i))
	}
}

// TestCopies: a copy of Sheets is Sheets too, and stays where the other ones are written over.
func TestCopies(t *testing.T) {
	s := New().add(t, 1, "a{} b{}").add(t, 2, "c{}")
	c := *s
	next := s.insert(t, 1, 1, "d{}")
	*s = Sheets{}
	is(t, "the copy", show(&c), "[1 2] 1/1/0 a{} 1/1/1 b{} 2/2/0 c{}")
	is(t, "what was made of it", show(next), "[1 2] 1/1/0 a{} 1/1/1 d{} 1/1/2 b{} 2/2/0 c{}")
	is(t, "made of the copy", show(c.drop(t, 2).add(t, 3, "e{}")), "[1 3] 1/1/0 a{} 1/1/1 b{} 3/3/0 e{}")
	refusedAdd(t, s, 1, "a{}", api.ErrMade)
}

// TestSharedByMany: Sheets may be read, and others made of them, by many at once.
func TestSharedByMany(t *testing.T) {
	s := New().add(t, 1, memoryText).add(t, 2, "a{} b{}")
	before := whole(s)
	var all sync.WaitGroup
	looks := make([]string, 8)
	for i := range looks {
		all.Go(func() {
			x := s
			for j := range 30 {
				x, _ = x.Insert(1, x.Count(1), fmt.Sprintf("k{l:%d}", j))
				x, _ = x.Insert(2, j%2, "m{n:o}")
				x, _ = x.Delete(1, j%3)
				x, _, _ = x.Add(3, "p{}")
				spoilAll(x)
				spoilAll(s)
			}
			looks[i] = whole(x)
		})
	}
	all.Wait()
	for _, l := range looks {
		is(t, "each made the same", l, looks[0])
	}
	is(t, "the ones of all", whole(s), before)
}
