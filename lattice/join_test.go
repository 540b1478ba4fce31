package lattice_test

import (
	"math/rand"
	"slices"
	"testing"

	"ripple/api"
	"ripple/lattice"
)

func TestP3Grades(t *testing.T) {
	for _, c := range []struct{ low, high api.Atom }{
		{count("a", 0, 1), count("a", 0, 2)},
		{count("a", 5, 1), count("a", 5, api.MaxN)},
		{net("a", 1, 0, 9), net("a", 1, 0, 10)},
		{last("a", 1, 5, "z"), last("a", 2, 0, "")},
		{last("a", 9, 5, "z"), last("a", 10, 0, "")},
		{last("a", 2, 0, "z"), last("a", 2, 1, "")},
		{last("a", 2, 1, "x"), last("a", 2, 1, "y")},
		{last("a", 2, 1, ""), last("a", 2, 1, "\x00")},
		{last("a", 2, 1, "x"), last("a", 2, 1, "x\x00")},
		{last("a", 2, 1, "xz"), last("a", 2, 1, "y")},
		{last("a", 2, 1, "Z"), last("a", 2, 1, "a")},
		{last("a", 2, 1, "\x7f"), last("a", 2, 1, "\x80")},
	} {
		for _, l := range [][]api.Atom{{c.low, c.high}, {c.high, c.low}, {c.high, c.low, c.high}, {c.low, c.high, c.low}} {
			if told, err := lattice.Join(l, nil); err != api.OK || !slices.Equal(told, list(c.high)) {
				t.Errorf("P3: the state of %v is %v, %d", l, told, err)
			}
		}
		if told, err := lattice.Delta(list(c.high), list(c.low)); err != api.OK || !slices.Equal(told, list(c.high)) {
			t.Errorf("P5: Delta(%v, %v) = %v, %d", c.high, c.low, told, err)
		}
		if told, err := lattice.Delta(list(c.low), list(c.high)); err != api.OK || told != nil {
			t.Errorf("P5: Delta(%v, %v) = %v, %d", c.low, c.high, told, err)
		}
		if told, err := lattice.Delta(list(c.low), list(c.low)); err != api.OK || told != nil {
			t.Errorf("P5: Delta of %v and itself = %v, %d", c.low, told, err)
		}
	}
}

// TestP3SlotsAndOrder: no two of these share a slot; they stand in the order in which they are told.
func TestP3SlotsAndOrder(t *testing.T) {
	sorted := list(
		count("\x00", 0, 1), count("Z", 0, 1), count("a", 0, 9), count("a", 1, 8), count("a", 5, 7), count("a\x00", 0, 1), count("ab", 0, 1), count("abcd", 0, 1), count("b", 0, 1), count("\xff", 0, 1),
		net("a", 0, 0, 4), net("a", 0, 1, 3), net("a", 0, 5, 2), net("a", 1, 0, 1), net("a", 1, 5, 1), net("b", 0, 0, 1),
		grow("a", ""), grow("a", "\x00"), grow("a", "Z"), grow("a", "x"), grow("a", "x\x00"), grow("a", "xy"), grow("a", "y"), grow("a", "\x80"), grow("ab", ""), grow("b", ""),
		two("a", 0, "x"), two("a", 0, "y"), two("a", 1, ""), two("a", 1, "x"), two("b", 0, ""),
		last("a", 9, 5, "z"), last("aa", 1, 0, ""), last("b", 5, 3, "y"),
	)
	r := rand.New(rand.NewSource(2))
	for range 200 {
		mixed := slices.Clone(sorted)
		r.Shuffle(len(mixed), func(i, j int) { mixed[i], mixed[j] = mixed[j], mixed[i] })
		cut := r.Intn(len(mixed) + 1)
		if told, err := lattice.Join(mixed[:cut], mixed[cut:]); err != api.OK || !slices.Equal(told, sorted) {
			t.Fatalf("P3: Join(%v, %v) = %v, %d", mixed[:cut], mixed[cut:], told, err)
		}
		if told, err := lattice.Delta(mixed, mixed[cut:]); err != api.OK || !slices.Equal(told, modelState(mixed[:cut])) {
			t.Fatalf("P5: Delta(%v, %v) = %v, %d", mixed, mixed[cut:], told, err)
		}
	}
}

func TestExamples1And2(t *testing.T) {
	sum, err := lattice.Join(list(count("a", 0, 3), count("a", 0, 2)), list(count("a", 1, 5)))
	if err != api.OK || !slices.Equal(sum, list(count("a", 0, 3), count("a", 1, 5))) {
		t.Errorf("P4: example 1: Join = %v, %d", sum, err)
	}
	if v, err := lattice.Read(sum, api.Count, "a"); v.N != 8 || v.Elems != nil || err != api.OK {
		t.Errorf("P7: example 1: Read = %+v, %d", v, err)
	}
	if left, err := lattice.Delta(sum, list(count("a", 0, 3))); err != api.OK || !slices.Equal(left, list(count("a", 1, 5))) {
		t.Errorf("P5: example 1: Delta = %v, %d", left, err)
	}
	set := list(two("a", 0, "x"), two("a", 0, "y"), two("a", 1, "x"))
	if told, err := lattice.Join(set, nil); err != api.OK || !slices.Equal(told, set) {
		t.Errorf("P4: example 2: Join = %v, %d", told, err)
	}
	if v, err := lattice.Read(set, api.Two, "a"); v.N != 0 || !slices.Equal(v.Elems, []string{"y"}) || err != api.OK {
		t.Errorf("P7: example 2: Read = %+v, %d", v, err)
	}
	if v, err := lattice.Read(list(last("a", 2, 0, "b"), last("a", 2, 1, "a")), api.Last, "a"); v.N != 2 || !slices.Equal(v.Elems, []string{"a"}) || err != api.OK {
		t.Errorf("P7: example 2: Read = %+v, %d", v, err)
	}
}

func TestP4P5EmptyLists(t *testing.T) {
	for _, none := range [][]api.Atom{nil, {}} {
		if told, err := lattice.Join(none, none); told != nil || err != api.OK {
			t.Errorf("P4: Join of nothing = %v, %d", told, err)
		}
		if told, err := lattice.Delta(none, none); told != nil || err != api.OK {
			t.Errorf("P5: Delta of nothing = %v, %d", told, err)
		}
		if told, err := lattice.Delta(none, list(grow("a", ""))); told != nil || err != api.OK {
			t.Errorf("P5: Delta of nothing by something = %v, %d", told, err)
		}
		if told, err := lattice.Delta(list(grow("a", "")), none); !slices.Equal(told, list(grow("a", ""))) || err != api.OK {
			t.Errorf("P5: Delta of something by nothing = %v, %d", told, err)
		}
	}
}

func TestP4P5Drawn(t *testing.T) {
	r := rand.New(rand.NewSource(3))
	for range 3000 {
		a, b := draw(r, 12), draw(r, 12)
		sum, err := lattice.Join(a, b)
		if want := modelState(a, b); err != api.OK || !slices.Equal(sum, want) {
			t.Fatalf("P4: Join(%v, %v) = %v, %d, want %v", a, b, sum, err, want)
		}
		left, err := lattice.Delta(a, b)
		if want := modelDelta(a, b); err != api.OK || !slices.Equal(left, want) {
			t.Fatalf("P5: Delta(%v, %v) = %v, %d, want %v", a, b, left, err, want)
		}
		if again, _ := lattice.Join(left, b); !slices.Equal(again, sum) {
			t.Fatalf("P5: Delta(%v, %v) = %v: joined with the second it is %v, not %v", a, b, left, again, sum)
		}
		for i := range left {
			less := slices.Delete(slices.Clone(left), i, i+1)
			if again, _ := lattice.Join(less, b); slices.Equal(again, sum) {
				t.Fatalf("P5: Delta(%v, %v) = %v: %v would do", a, b, left, less)
			}
		}
	}
}

func TestP16JoinsInAnyOrder(t *testing.T) {
	r := rand.New(rand.NewSource(4))
	join := func(a, b []api.Atom) []api.Atom {
		told, _ := lattice.Join(a, b)
		return told
	}
	for range 1000 {
		a, b, c := draw(r, 8), draw(r, 8), draw(r, 8)
		want := join(join(a, b), c)
		for i, other := range [][]api.Atom{join(a, join(b, c)), join(c, join(b, a)), join(join(a, c), join(b, c)), join(want, want), join(want, b)} {
			if !slices.Equal(other, want) {
				t.Fatalf("P16: %v, %v, %v: way %d gives %v, not %v", a, b, c, i, other, want)
			}
		}
	}
}
