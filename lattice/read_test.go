package lattice_test

import (
	"math"
	"math/rand"
	"slices"
	"testing"

	"ripple/api"
	"ripple/lattice"
)

func TestP7Values(t *testing.T) {
	var most []api.Atom
	for who := range api.MaxReplicas {
		most = append(most, count("m", who, api.MaxN), net("m", 0, who, api.MaxN), net("n", 1, who, api.MaxN))
	}
	all := append(most,
		count("a", 0, 3), count("a", 1, 5), count("a", 0, 2), count("b", 0, 9), count("ab", 2, 1),
		net("a", 0, 0, 7), net("a", 1, 0, 9), net("a", 1, 2, 1), net("a", 0, 0, 6), net("b", 0, 3, 4), net("b", 1, 3, 4),
		grow("a", "y"), grow("a", "x\x00"), grow("a", "x"), grow("a", "y"), grow("a", ""), grow("a", "\xff"), grow("b", "q"),
		two("a", 0, "y"), two("a", 0, "x"), two("a", 1, "x"), two("a", 1, "z"), two("a", 0, "w"), two("a", 0, ""), two("b", 1, "y"), two("b", 1, "w"), two("c", 0, "k"), two("c", 1, "k"),
		last("a", 2, 0, "b"), last("a", 2, 1, "a"), last("a", 1, 5, "z"), last("b", 1, 0, ""), last("c", api.MaxN, 5, "12345678"))
	for _, c := range []struct {
		kind  int
		key   string
		n     int
		elems []string
	}{
		{api.Count, "a", 8, nil}, {api.Count, "b", 9, nil}, {api.Count, "ab", 1, nil}, {api.Count, "m", 6 * api.MaxN, nil}, {api.Count, "n", 0, nil},
		{api.Net, "a", -3, nil}, {api.Net, "b", 0, nil}, {api.Net, "m", 6 * api.MaxN, nil}, {api.Net, "n", -6 * api.MaxN, nil}, {api.Net, "ab", 0, nil},
		{api.Grow, "a", 0, []string{"", "x", "x\x00", "y", "\xff"}}, {api.Grow, "b", 0, []string{"q"}}, {api.Grow, "m", 0, nil},
		{api.Two, "a", 0, []string{"", "w", "y"}}, {api.Two, "b", 0, nil}, {api.Two, "c", 0, nil}, {api.Two, "m", 0, nil},
		{api.Last, "a", 2, []string{"a"}}, {api.Last, "b", 1, []string{""}}, {api.Last, "c", api.MaxN, []string{"12345678"}}, {api.Last, "m", 0, nil},
		{api.Count, "", 0, nil}, {api.Grow, "", 0, nil}, {api.Last, "", 0, nil}, {api.Two, "abcdefgh", 0, nil},
	} {
		v, err := lattice.Read(all, c.kind, c.key)
		if v.N != c.n || !slices.Equal(v.Elems, c.elems) || err != api.OK {
			t.Errorf("P7: Read(.., %d, %q) = %+v, %d, want %d, %q", c.kind, c.key, v, err, c.n, c.elems)
		}
	}
}

func TestP7Kinds(t *testing.T) {
	for _, kind := range []int{math.MinInt, -1, 0, api.Last + 1, math.MaxInt} {
		for _, a := range [][]api.Atom{nil, list(count("a", 0, 3))} {
			if v, err := lattice.Read(a, kind, "a"); v.N != 0 || v.Elems != nil || err != api.ErrOp {
				t.Errorf("P7: Read(%v, %d) = %+v, %d", a, kind, v, err)
			}
		}
	}
	for kind := api.Count; kind <= api.Last; kind++ {
		if v, err := lattice.Read(nil, kind, "a"); v.N != 0 || v.Elems != nil || err != api.OK {
			t.Errorf("P7: Read of nothing of kind %d = %+v, %d", kind, v, err)
		}
	}
}

// modelRead goes through a told list, in which elements are sorted already.
func modelRead(told []api.Atom, kind int, key string) api.Value {
	var v api.Value
	for _, a := range told {
		if a.Type != kind || a.Key != key {
			continue
		}
		switch {
		case kind == api.Net && a.Side == 1:
			v.N -= a.N
		case kind == api.Two && (a.Side == 1 || slices.Contains(told, two(key, 1, a.Elem))):
		case kind == api.Count || kind == api.Net:
			v.N += a.N
		default:
			v.N, v.Elems = a.N, append(v.Elems, a.Elem)
		}
	}
	return v
}

func TestP7Drawn(t *testing.T) {
	r := rand.New(rand.NewSource(6))
	for range 2000 {
		a := draw(r, 30)
		for kind := api.Count; kind <= api.Last; kind++ {
			for _, key := range []string{"a", "ab", "c"} {
				want := modelRead(modelState(a), kind, key)
				if v, err := lattice.Read(a, kind, key); v.N != want.N || !slices.Equal(v.Elems, want.Elems) || err != api.OK {
					t.Fatalf("P7: Read(%v, %d, %q) = %+v, %d, want %+v", a, kind, key, v, err, want)
				}
			}
		}
	}
}
