package cascade

import (
	"math/rand"
	"slices"
	"sync"
	"testing"

	"gouache/api"
)

// answers: what all calls tell of a list, each for itself.
func answers(l []Entry) [][]Entry {
	return [][]Entry{Sort(l), Winners(l), Chain(l, "a"), Chain(l, "")}
}

// spoil: an answer is written over, with the room behind it.
func spoil(l []Entry) {
	l = l[:cap(l)]
	for i := range l {
		l[i] = of("x", "x", 3, true, api.Spec{A: 1}, 1)
	}
}

// TestNothingIsChanged: neither what is handed in nor what lies behind its end.
func TestNothingIsChanged(t *testing.T) {
	r := rand.New(rand.NewSource(10))
	for range 500 {
		l := chance(r, 40)
		whole := append(slices.Clone(l), of("a", "behind", 1, true, api.Spec{A: 1}, 1), of("", "behind", 1, true, api.Spec{A: 1}, 1))
		before := slices.Clone(whole)
		mine := whole[:len(l)]
		answers(mine)
		Winner(mine, "a")
		if len(mine) > 1 {
			Less(mine[0], mine[1])
			Rank(mine[0])
		}
		is(t, "what was handed in", whole, before)
	}
}

// TestAnswersAreNew: who writes over an answer, or behind its end, changes neither another one nor what was handed in.
func TestAnswersAreNew(t *testing.T) {
	r := rand.New(rand.NewSource(11))
	for range 300 {
		l := Sort(chance(r, 40))
		before := slices.Clone(l)
		want := [][]Entry{oSort(l), oWinners(l), oChain(l, "a"), oChain(l, "")}
		for i := range want {
			older := answers(l)
			spoil(older[i])
			for j := range want {
				if j != i {
					is(t, "another answer", older[j], want[j])
				}
			}
			_ = append(answers(l)[i], of("x", "x", 1, true, api.Spec{}, 1))
			is(t, "what was handed in", l, before)
			is(t, "later answers", answers(l), want)
		}
	}
}

// TestRoomBehindAnswers: what lies there is of no list that was handed in.
func TestRoomBehindAnswers(t *testing.T) {
	r := rand.New(rand.NewSource(12))
	for range 300 {
		for _, got := range answers(chance(r, 40)) {
			for _, e := range got[len(got):cap(got)] {
				is(t, "spare room", e, Entry{})
			}
		}
	}
}

// TestAnswersStay: what was told stays, when what was handed in is written over.
func TestAnswersStay(t *testing.T) {
	r := rand.New(rand.NewSource(13))
	for range 300 {
		l := chance(r, 40)
		want := [][]Entry{oSort(l), oWinners(l), oChain(l, "a"), oChain(l, "")}
		first := told(oWinner(l, "a"))
		got, one := answers(l), told(Winner(l, "a"))
		spoil(l)
		is(t, "told", got, want)
		is(t, "told", one, first)
	}
}

// TestTheSameEachTime: what is told hangs on the list alone, not on how a map is gone through.
func TestTheSameEachTime(t *testing.T) {
	l := chance(rand.New(rand.NewSource(14)), 400)
	want := answers(l)
	for range 200 {
		is(t, "again", answers(l), want)
	}
}

// TestManyAtOnce: calls from many sides at once tell the same of the same list, though each writes over what it was told.
func TestManyAtOnce(t *testing.T) {
	l := chance(rand.New(rand.NewSource(15)), 200)
	want := [][]Entry{oSort(l), oWinners(l), oChain(l, "a"), oChain(l, "")}
	first := told(oWinner(l, "a"))
	var all sync.WaitGroup
	for range 8 {
		all.Go(func() {
			for range 60 {
				got := answers(l)
				is(t, "answers", got, want)
				is(t, "Winner", told(Winner(l, "a")), first)
				for _, x := range got {
					spoil(x)
				}
			}
		})
	}
	all.Wait()
}
