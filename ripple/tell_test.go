package ripple_test

import (
	"math"
	"slices"
	"testing"

	"ripple/api"
	"ripple/lattice"
)

func TestP14Read(t *testing.T) {
	p := fresh(t, api.Config{Replicas: 2, Room: 1})
	for _, op := range []api.Op{
		count(3), count(4),
		{Type: api.Count, Key: "b", N: 100},
		{Type: api.Net, Key: "a", N: 5}, {Type: api.Net, Key: "a", N: -9},
		grow("y"), grow("x"), grow(""),
		{Type: api.Two, Key: "a", Elem: "y"}, {Type: api.Two, Key: "a", Elem: "x"}, {Type: api.Two, Key: "a", Elem: "y", Side: 1},
		{Type: api.Last, Key: "a", Elem: "p"}, {Type: api.Last, Key: "a", Elem: "o"},
		{Type: api.Last, Key: "b"},
	} {
		p.update(t, 0, op)
	}
	for _, c := range []struct {
		kind  int
		key   string
		n     int
		elems []string
	}{
		{api.Count, "a", 7, nil}, {api.Count, "b", 100, nil}, {api.Count, "c", 0, nil}, {api.Count, "", 0, nil}, {api.Count, "abcdefgh", 0, nil},
		{api.Net, "a", -4, nil}, {api.Net, "b", 0, nil},
		{api.Grow, "a", 0, []string{"", "x", "y"}}, {api.Grow, "b", 0, nil},
		{api.Two, "a", 0, []string{"x"}}, {api.Two, "b", 0, nil},
		{api.Last, "a", 2, []string{"o"}}, {api.Last, "b", 1, []string{""}}, {api.Last, "c", 0, nil},
	} {
		if v, err := p.x.Read(0, c.kind, c.key); v.N != c.n || !slices.Equal(v.Elems, c.elems) || err != api.OK {
			t.Errorf("P14: Read(0, %d, %q) = %+v, %d", c.kind, c.key, v, err)
		}
		if v, err := p.x.Read(1, c.kind, c.key); v.N != 0 || v.Elems != nil || err != api.OK {
			t.Errorf("P14: Read(1, %d, %q) = %+v, %d of an empty state", c.kind, c.key, v, err)
		}
	}
	for _, kind := range []int{math.MinInt, -1, 0, 6, math.MaxInt} {
		if v, err := p.x.Read(0, kind, "a"); v.N != 0 || v.Elems != nil || err != api.ErrOp {
			t.Errorf("P14: Read(0, %d) = %+v, %d", kind, v, err)
		}
	}
	p.m.agree(t, p.x)
}

// reads: what Read tells is what lattice.Read tells of the model's state.
func (p pair) reads(t *testing.T, r, kind int, key string) {
	t.Helper()
	v, err := p.x.Read(r, kind, key)
	if want := p.m.downOr(r); want != api.OK {
		if v.N != 0 || v.Elems != nil || err != want {
			t.Fatalf("P14: Read(%d, %d, %q) = %+v, %d, not %d", r, kind, key, v, err, want)
		}
		return
	}
	want, wantErr := lattice.Read(p.m.replicas[r].state, kind, key)
	if v.N != want.N || !slices.Equal(v.Elems, want.Elems) || err != wantErr {
		t.Fatalf("P14: Read(%d, %d, %q) = %+v, %d, not %+v, %d", r, kind, key, v, err, want, wantErr)
	}
}

// TestP14Down: of a replica that is down the log is told, and that it is down.
func TestP14Down(t *testing.T) {
	p := fresh(t, api.Config{Replicas: 3, Room: 1, Edges: all(3)})
	for n := range 3 {
		p.update(t, 1, count(n+1))
	}
	p.crash(t, 1)
	p.logSize(t, 1, 3*size)
	at, err := p.x.Replica(1)
	if at.Up || at.Number != 0 || at.Base != 0 || !slices.Equal(at.Acked, []int{0, 0, 0}) || err != api.OK {
		t.Errorf("P14: Replica of one that is down = %+v, %d", at, err)
	}
	p.reads(t, 1, api.Count, "a")
}
