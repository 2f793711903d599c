package model

import (
	"fmt"
	"slices"
	"sync"
	"testing"

	"gouache/api"
)

// TestManyAtOnce: one State, asked and changed by many sides at once, is never changed, and answers each as it would alone.
func TestManyAtOnce(t *testing.T) {
	s := some(t)
	was := shown(s)
	var want []api.Answer
	for _, o := range samples() {
		_, a := s.Do(o)
		want = append(want, a)
	}
	var sides sync.WaitGroup
	for side := range 8 {
		sides.Go(func() {
			var got []api.Answer
			for _, o := range samples() {
				_, a := s.Do(o)
				got = append(got, a)
			}
			is(t, fmt.Sprint("side ", side), slices.EqualFunc(got, want, Same), true)
		})
	}
	sides.Wait()
	is(t, "the State", shown(s), was)
}
