package lattice_test

import (
	"math"
	"slices"
	"testing"

	"ripple/api"
	"ripple/lattice"
)

// mayBe is P3, type by type.
func mayBe(a api.Atom) bool {
	if len(a.Key) < 1 || len(a.Key) > 4 {
		return false
	}
	byReplica := a.Who >= 0 && a.Who <= 5 && a.N >= 1 && a.N <= 2147483647
	byElem := len(a.Elem) <= 8
	switch a.Type {
	case 1:
		return byReplica && a.Side == 0 && a.Elem == ""
	case 2:
		return byReplica && (a.Side == 0 || a.Side == 1) && a.Elem == ""
	case 3:
		return byElem && a.Side == 0 && a.Who == 0 && a.N == 0
	case 4:
		return byElem && (a.Side == 0 || a.Side == 1) && a.Who == 0 && a.N == 0
	case 5:
		return byReplica && byElem && a.Side == 0
	}
	return false
}

// edges gives every atom whose fields are at a bound, one beyond it, or far beyond.
func edges(visit func(api.Atom)) {
	numbers := []int{math.MinInt, -1, 0, 1, 2, 5, 6, math.MaxInt}
	for _, kind := range []int{math.MinInt, -1, 0, 1, 2, 3, 4, 5, 6, math.MaxInt} {
		for _, key := range []string{"", "a", "abcd", "abcde"} {
			for _, side := range numbers {
				for _, who := range numbers {
					for _, elem := range []string{"", "x", "12345678", "123456789"} {
						for _, n := range []int{math.MinInt, -1, 0, 1, api.MaxN, api.MaxN + 1, math.MaxInt} {
							visit(api.Atom{Type: kind, Key: key, Side: side, Who: who, Elem: elem, N: n})
						}
					}
				}
			}
		}
	}
}

func TestP3AtomsThatMayBe(t *testing.T) {
	right := 0
	edges(func(a api.Atom) {
		told, err := lattice.Join(list(a), nil)
		if mayBe(a) {
			right++
			if err != api.OK || !slices.Equal(told, list(a)) {
				t.Errorf("P3: Join of %+v, which may be, = %v, %d", a, told, err)
			}
		} else if err != api.ErrAtom || told != nil {
			t.Errorf("P3: Join of %+v, which may not be, = %v, %d", a, told, err)
		}
	})
	if right == 0 {
		t.Error("none of the atoms that were tried may be")
	}
}

func TestP3BytesOfTextsAreFree(t *testing.T) {
	for b := range 256 {
		text := string([]byte{byte(b)})
		for _, a := range list(count(text, 0, 1), grow("a", text), last(text, 1, 0, text)) {
			if told, err := lattice.Join(nil, list(a)); err != api.OK || !slices.Equal(told, list(a)) {
				t.Errorf("P3: Join of %+v = %v, %d", a, told, err)
			}
		}
	}
}

// TestP3LengthsAreOfBytes: four letters of two bytes each are too long a key.
func TestP3LengthsAreOfBytes(t *testing.T) {
	for _, a := range list(count("éééé", 0, 1), count("ééa", 0, 1), grow("a", "ééééa")) {
		if told, err := lattice.Join(list(a), nil); err != api.ErrAtom || told != nil {
			t.Errorf("P3: Join of %+v = %v, %d", a, told, err)
		}
	}
	for _, a := range list(count("éé", 0, 1), grow("a", "éééé")) {
		if told, err := lattice.Join(list(a), nil); err != api.OK || !slices.Equal(told, list(a)) {
			t.Errorf("P3: Join of %+v = %v, %d", a, told, err)
		}
	}
}

var wrong = []api.Atom{{}, {Type: 6, Key: "a", N: 1}, {Type: api.Count, Key: "a"}, {Type: api.Grow, Key: "abcde"}, {Type: api.Two, Key: "a", Side: 2}, {Type: api.Last, Key: "a", N: 1, Who: 6}}

// TestP1WrongAtomAnywhere: a wrong atom counts wherever it stands, also where another one of its slot would win.
func TestP1WrongAtomAnywhere(t *testing.T) {
	good := list(count("a", 0, 3), grow("a", "x"), last("a", 2, 0, "y"))
	for _, w := range wrong {
		for at := range len(good) + 1 {
			bad := slices.Insert(slices.Clone(good), at, w)
			for name, call := range map[string]func() ([]api.Atom, api.Errno){
				"Join(bad, good)":  func() ([]api.Atom, api.Errno) { return lattice.Join(bad, good) },
				"Join(good, bad)":  func() ([]api.Atom, api.Errno) { return lattice.Join(good, bad) },
				"Join(bad, bad)":   func() ([]api.Atom, api.Errno) { return lattice.Join(bad, bad) },
				"Delta(bad, good)": func() ([]api.Atom, api.Errno) { return lattice.Delta(bad, good) },
				"Delta(good, bad)": func() ([]api.Atom, api.Errno) { return lattice.Delta(good, bad) },
				"Delta(nil, bad)":  func() ([]api.Atom, api.Errno) { return lattice.Delta(nil, bad) },
				"All(good, bad)":   func() ([]api.Atom, api.Errno) { return lattice.All([][]api.Atom{good, bad}) },
			} {
				if told, err := call(); told != nil || err != api.ErrAtom {
					t.Errorf("P1: %s with %+v at %d = %v, %d", name, w, at, told, err)
				}
			}
			for _, kind := range []int{api.Count, api.Last, 0, 6} { // ErrAtom is named ahead of ErrOp
				if v, err := lattice.Read(bad, kind, "a"); v.N != 0 || v.Elems != nil || err != api.ErrAtom {
					t.Errorf("P7: Read(bad, %d) with %+v at %d = %+v, %d", kind, w, at, v, err)
				}
			}
		}
	}
}
