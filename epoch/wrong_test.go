package epoch

import (
	"fmt"
	"testing"

	"gouache/api"
)

// TestUnmade: Epochs that no call made answer nothing, and stay as they are.
func TestUnmade(t *testing.T) {
	for n, x := range unmade() {
		for range 2 {
			what := fmt.Sprint("Epochs ", n, ": ")
			is(t, what+"Now", x.Now(), 0)
			is(t, what+"Publish", x.Publish(), 0)
			is(t, what+"Pin", pinned(x.Pin()), pinned(0, api.ErrMade))
			is(t, what+"Min", x.Min(), 0)
			for _, i := range ends() {
				is(t, what+"Pinned", x.Pinned(i), 0)
				is(t, what+"Unpin", x.Unpin(i), api.ErrMade)
				is(t, what+"Retire", x.Retire(i), api.ErrMade)
			}
			is(t, what+"Waiting", x.Waiting() == nil, true)
			is(t, what+"Reclaim", x.Reclaim() == nil, true)
		}
	}
}

// TestErrorsChangeNothing: who is refused has changed nothing.
func TestErrorsChangeNothing(t *testing.T) {
	x := New(2)
	x.Retire(3)
	x.Pin()
	x.Publish()
	x.Pin()
	x.Retire(2)
	before := told(x)
	for range 3 {
		is(t, "Pin", pinned(x.Pin()), pinned(0, api.ErrBusy))
		is(t, "Unpin", []api.Errno{x.Unpin(-1), x.Unpin(2), x.Unpin(8)}, []api.Errno{api.ErrIndex, api.ErrIndex, api.ErrIndex})
		is(t, "Reclaim", x.Reclaim(), []int{})
		is(t, "all", told(x), before)
	}
}

// TestVeryMany: of very many that wait, in falling order and by epochs, all are told in order.
func TestVeryMany(t *testing.T) {
	const many = 300000
	x := New(1)
	x.Pin()
	for n := range many {
		x.Retire(many - n)
		if n == many/2-1 {
			x.Publish()
			x.Unpin(0)
			x.Pin()
		}
	}
	l := x.Waiting()
	for n, i := range l {
		want := Item{many/2 + n + 1, 1}
		if n >= many/2 {
			want = Item{n - many/2 + 1, 2}
		}
		if i != want {
			t.Fatalf("Waiting: at %d %v, want %v", n, i, want)
		}
	}
	is(t, "how many", len(l), many)
	first := x.Reclaim()
	x.Unpin(0)
	for n, id := range append(first, x.Reclaim()...) {
		if id != l[n].Id {
			t.Fatalf("Reclaim: at %d %v, want %v", n, id, l[n])
		}
	}
	is(t, "the first ones", []int{len(first), len(x.Waiting())}, []int{many / 2, 0})
}
