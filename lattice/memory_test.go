package lattice_test

import (
	"slices"
	"testing"

	"ripple/api"
	"ripple/lattice"
)

var mark = grow("mark", "mark")

// roomy gives a list with marks in its spare room.
func roomy(atoms ...api.Atom) []api.Atom {
	size := len(atoms)
	return append(slices.Clone(atoms), mark, mark, mark)[:size]
}

// scribble writes all over a list that came out, and its spare room.
func scribble(l []api.Atom) {
	for i := range l[:cap(l)] {
		l[:cap(l)][i] = api.Atom{Type: -7, Key: "scribble"}
	}
}

func TestP2ListsInAndOut(t *testing.T) {
	wantA := list(last("b", 1, 0, ""), count("a", 0, 3), count("a", 0, 2), grow("a", "x"), mark, mark, mark)
	wantB := list(two("a", 1, "y"), count("a", 0, 5), mark, mark, mark)
	a, b := roomy(wantA[:4]...), roomy(wantB[:2]...)
	lists := [][]api.Atom{a, b, nil, a}
	calls := []func() []api.Atom{
		func() []api.Atom { l, _ := lattice.Join(a, b); return l },
		func() []api.Atom { l, _ := lattice.Join(a, nil); return l },
		func() []api.Atom { l, _ := lattice.Join(nil, a); return l },
		func() []api.Atom { l, _ := lattice.Join(a, a); return l },
		func() []api.Atom { l, _ := lattice.Delta(a, b); return l },
		func() []api.Atom { l, _ := lattice.Delta(a, nil); return l },
		func() []api.Atom { l, _ := lattice.All(lists); return l },
		func() []api.Atom { l, _ := lattice.All(lists[:1]); return l },
	}
	for i, call := range calls {
		first, second := call(), call()
		want := slices.Clone(second)
		if len(first) == 0 || !slices.Equal(first, second) {
			t.Errorf("P2: call %d gives %v, and then %v", i, first, second)
		}
		scribble(first)
		if !slices.Equal(second, want) {
			t.Errorf("P2: two answers of call %d share room", i)
		}
		if third := call(); !slices.Equal(third, want) {
			t.Errorf("P2: call %d gives %v after its answer was written into, not %v", i, third, want)
		}
		if !slices.Equal(a[:7], wantA) || !slices.Equal(b[:5], wantB) {
			t.Fatalf("P2: call %d: what was handed in is now %v and %v", i, a[:7], b[:5])
		}
		if len(lists) != 4 || len(lists[0]) != 4 || len(lists[1]) != 2 || lists[2] != nil || len(lists[3]) != 4 {
			t.Fatalf("P2: call %d: the list of lists is now %v", i, lists)
		}
	}
}

// TestP2ToldAlready: also a list that is its own answer, atom by atom, does not come out as it is.
func TestP2ToldAlready(t *testing.T) {
	for _, told := range [][]api.Atom{{count("a", 0, 3)}, {grow("a", "x")}, {count("a", 0, 3), grow("a", "x"), last("a", 1, 0, "y")}} {
		a := roomy(told...)
		for i, call := range []func() ([]api.Atom, api.Errno){
			func() ([]api.Atom, api.Errno) { return lattice.Join(a, nil) },
			func() ([]api.Atom, api.Errno) { return lattice.Join(nil, a) },
			func() ([]api.Atom, api.Errno) { return lattice.Join(a, a) },
			func() ([]api.Atom, api.Errno) { return lattice.Delta(a, nil) },
			func() ([]api.Atom, api.Errno) { return lattice.All([][]api.Atom{a}) },
			func() ([]api.Atom, api.Errno) { return lattice.All([][]api.Atom{nil, a, a}) },
		} {
			out, err := call()
			if !slices.Equal(out, told) || err != api.OK {
				t.Errorf("P2: call %d of %v = %v, %d", i, told, out, err)
			}
			scribble(out)
			if !slices.Equal(a, told) || !slices.Equal(a[len(a):len(a)+3], list(mark, mark, mark)) {
				t.Fatalf("P2: the answer of call %d shares room with what was handed in: %v", i, a[:len(told)+3])
			}
		}
	}
}

// TestP2NothingKept: the answer that was given stays, the next one follows what is handed in then.
func TestP2NothingKept(t *testing.T) {
	a, b := list(count("a", 0, 3)), list(grow("a", "x"))
	sum, _ := lattice.Join(a, b)
	left, _ := lattice.Delta(a, b)
	all, _ := lattice.All([][]api.Atom{a, b})
	a[0].N, b[0].Elem = 7, "y"
	if !slices.Equal(sum, list(count("a", 0, 3), grow("a", "x"))) || !slices.Equal(all, sum) || !slices.Equal(left, sum[:1]) {
		t.Errorf("P2: answers change with what was handed in: %v, %v, %v", sum, left, all)
	}
	if v, _ := lattice.Read(a, api.Count, "a"); v.N != 7 {
		t.Errorf("P2: Read = %+v after a change to 7", v)
	}
	if again, _ := lattice.All([][]api.Atom{a, b}); !slices.Equal(again, list(count("a", 0, 7), grow("a", "y"))) {
		t.Errorf("P2: All = %v after a change", again)
	}
}

func TestP2ReadElems(t *testing.T) {
	a := roomy(grow("a", "z"), grow("a", "x"), grow("a", "y"), two("a", 0, "p"), two("a", 1, "p"), two("a", 0, "q"), last("a", 1, 0, "r"))
	want := slices.Clone(a[:cap(a)])
	for kind, elems := range map[int][]string{api.Grow: {"x", "y", "z"}, api.Two: {"q"}, api.Last: {"r"}} {
		first, _ := lattice.Read(a, kind, "a")
		second, _ := lattice.Read(a, kind, "a")
		for i := range first.Elems[:cap(first.Elems)] {
			first.Elems[:cap(first.Elems)][i] = "scribble"
		}
		third, _ := lattice.Read(a, kind, "a")
		if !slices.Equal(second.Elems, elems) || !slices.Equal(third.Elems, elems) {
			t.Errorf("P2: Read of kind %d after its answer was written into: %q, %q", kind, second.Elems, third.Elems)
		}
		if !slices.Equal(a[:cap(a)], want) {
			t.Fatalf("P2: Read of kind %d: what was handed in is now %v", kind, a[:cap(a)])
		}
	}
}
