package lattice_test

import (
	"math/rand"
	"runtime"
	"slices"
	"sync"
	"testing"
	"time"

	"ripple/api"
	"ripple/lattice"
)

func TestP6NumberOfLists(t *testing.T) {
	for _, size := range []int{0, 1, 2, api.MaxLists - 1, api.MaxLists} {
		lists := make([][]api.Atom, size)
		if told, err := lattice.All(lists); told != nil || err != api.OK {
			t.Errorf("P6: All of %d empty lists = %v, %d", size, told, err)
		}
		var want []api.Atom
		for i := range lists {
			lists[i] = list(grow("a", string(rune('a'+i))))
			want = append(want, lists[i]...)
		}
		if told, err := lattice.All(lists); !slices.Equal(told, want) || err != api.OK {
			t.Errorf("P6: All of %d lists = %v, %d", size, told, err)
		}
	}
	if told, err := lattice.All(nil); told != nil || err != api.OK {
		t.Errorf("P6: All of nil = %v, %d", told, err)
	}
	for _, size := range []int{api.MaxLists + 1, 1000} {
		lists := make([][]api.Atom, size)
		if told, err := lattice.All(lists); told != nil || err != api.ErrLarge {
			t.Errorf("P6: All of %d empty lists = %v, %d", size, told, err)
		}
		lists[0], lists[size-1] = list(grow("a", "x")), list(api.Atom{}) // ErrLarge is named ahead of ErrAtom
		if told, err := lattice.All(lists); told != nil || err != api.ErrLarge {
			t.Errorf("P6: All of %d lists, one of them wrong = %v, %d", size, told, err)
		}
	}
}

func TestP6WrongListAnywhere(t *testing.T) {
	for at := range api.MaxLists {
		lists := make([][]api.Atom, api.MaxLists)
		for i := range lists {
			lists[i] = list(count("a", 0, i+1), grow("a", "x"))
		}
		for _, w := range wrong {
			lists[at] = list(grow("a", "y"), w)
			for range 5 {
				if told, err := lattice.All(lists); told != nil || err != api.ErrAtom {
					t.Errorf("P6: All with %+v in list %d = %v, %d", w, at, told, err)
				}
			}
		}
	}
}

func TestP6Drawn(t *testing.T) {
	r := rand.New(rand.NewSource(5))
	for range 500 {
		lists := make([][]api.Atom, r.Intn(api.MaxLists+1))
		for i := range lists {
			lists[i] = draw(r, 20)
		}
		want := modelState(lists...)
		for range 4 {
			r.Shuffle(len(lists), func(i, j int) { lists[i], lists[j] = lists[j], lists[i] })
			if told, err := lattice.All(lists); err != api.OK || !slices.Equal(told, want) {
				t.Fatalf("P6: All(%v) = %v, %d, want %v", lists, told, err, want)
			}
		}
	}
}

// TestP6LongLists: long enough that goroutines really run at the same time, and all of them at the same slots.
func TestP6LongLists(t *testing.T) {
	lists := make([][]api.Atom, api.MaxLists)
	for i := range lists {
		for n := range 2000 {
			lists[i] = append(lists[i], count("a", (i+n)%api.MaxReplicas, n+1), last("a", n+1, i%api.MaxReplicas, "x"))
		}
	}
	want := modelState(lists...)
	for range 20 {
		if told, err := lattice.All(lists); err != api.OK || !slices.Equal(told, want) {
			t.Fatalf("P6: All = %v, %d, want %v", told, err, want)
		}
	}
}

func TestP6SameListAndSeveralCallers(t *testing.T) {
	one := list(count("a", 0, 3), count("a", 0, 2))
	lists := [][]api.Atom{one, one, one[:1], one[1:]}
	var callers sync.WaitGroup
	for range 8 {
		callers.Go(func() {
			for range 100 {
				if told, err := lattice.All(lists); err != api.OK || !slices.Equal(told, one[:1]) {
					t.Errorf("P6: All = %v, %d", told, err)
				}
			}
		})
	}
	callers.Wait()
}

// TestP1GoroutinesEnd waits a little, as the library may count one for a moment after its work is done.
func TestP1GoroutinesEnd(t *testing.T) {
	before := runtime.NumGoroutine()
	for range 100 {
		lattice.All([][]api.Atom{list(grow("a", "x")), nil, list(api.Atom{})})
		lattice.All(make([][]api.Atom, api.MaxLists))
		lattice.All(make([][]api.Atom, api.MaxLists+1))
	}
	for range 1000 {
		if runtime.NumGoroutine() <= before {
			return
		}
		time.Sleep(time.Millisecond)
	}
	t.Errorf("P1: %d goroutines ahead of All, %d behind it", before, runtime.NumGoroutine())
}
