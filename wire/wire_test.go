package wire

import (
	"math"
	"testing"
)

func TestNumbersThereAndBack(t *testing.T) {
	for _, c := range []struct {
		n, width int
		want     string
	}{
		{0, 1, "\x00"},
		{255, 1, "\xff"},
		{1, 4, "\x00\x00\x00\x01"},
		{1<<31 - 1, 4, "\x7f\xff\xff\xff"},
		{1<<32 - 1, 4, "\xff\xff\xff\xff"},
		{258, 8, "\x00\x00\x00\x00\x00\x00\x01\x02"},
		{math.MaxInt, 8, "\x7f\xff\xff\xff\xff\xff\xff\xff"},
		{-1, 8, "\xff\xff\xff\xff\xff\xff\xff\xff"},
	} {
		out := AppendNumber([]byte("ab"), c.n, c.width)
		if string(out) != "ab"+c.want {
			t.Errorf("AppendNumber(%d, %d) = %q", c.n, c.width, out)
		}
		r := Reader{Rest: c.want + "z"}
		if n := r.Number(c.width); n != c.n || r.Rest != "z" {
			t.Errorf("Number(%d) of %q = %d, rest %q", c.width, c.want, n, r.Rest)
		}
	}
}

func TestTakeBeyondTheEnds(t *testing.T) {
	for _, c := range []struct {
		size        int
		taken, rest string
	}{{math.MinInt, "", "abc"}, {-1, "", "abc"}, {0, "", "abc"}, {2, "ab", "c"}, {3, "abc", ""}, {4, "abc", ""}, {math.MaxInt, "abc", ""}} {
		r := Reader{Rest: "abc"}
		if taken := r.Take(c.size); taken != c.taken || r.Rest != c.rest {
			t.Errorf("Take(%d) = %q, rest %q", c.size, taken, r.Rest)
		}
	}
	r := Reader{Rest: "\x01\x02"}
	if n := r.Number(8); n != 258 || r.Number(8) != 0 {
		t.Errorf("Number of two bytes = %d", n)
	}
}
