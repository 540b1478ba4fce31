package state

import (
	"math"
	"testing"

	"ripple/api"
)

// mayBeDone is P10's list of what is no operation, type by type.
func mayBeDone(op api.Op) bool {
	if len(op.Key) < 1 || len(op.Key) > 4 || len(op.Elem) > 8 {
		return false
	}
	switch op.Type {
	case 1:
		return op.N >= 1 && op.N <= 1000 && op.Side == 0 && op.Elem == ""
	case 2:
		return op.N != 0 && op.N >= -1000 && op.N <= 1000 && op.Side == 0 && op.Elem == ""
	case 3, 5:
		return op.Side == 0 && op.N == 0
	case 4:
		return (op.Side == 0 || op.Side == 1) && op.N == 0
	}
	return false
}

// opEdges gives every operation whose fields are at a bound, one beyond it, or far beyond.
func opEdges(visit func(api.Op)) {
	for _, kind := range []int{math.MinInt, -1, 0, 1, 2, 3, 4, 5, 6, math.MaxInt} {
		for _, key := range []string{"", "a", "\xff\x00bc", "abcde", "éé", "ééa"} {
			for _, side := range []int{math.MinInt, -1, 0, 1, 2, math.MaxInt} {
				for _, elem := range []string{"", "x", "12345678", "123456789"} {
					for _, n := range []int{math.MinInt, math.MinInt + 1, -1001, -1000, -1, 0, 1, 1000, 1001, api.MaxN, math.MaxInt} {
						visit(api.Op{Type: kind, Key: key, Side: side, Elem: elem, N: n})
					}
				}
			}
		}
	}
}

func TestP10Operations(t *testing.T) {
	done := 0
	opEdges(func(op api.Op) {
		m := Map{}
		a, err := m.Change(5, op)
		switch {
		case len(m) != 0:
			t.Fatalf("Change has changed the state: %v", m)
		case !mayBeDone(op) && (err != api.ErrOp || a != api.Atom{}):
			t.Errorf("P10: of %+v, which is no operation: %+v, %d", op, a, err)
		case mayBeDone(op) && (err != api.OK || !mayBe(a)):
			t.Errorf("P10: of %+v: %+v, %d", op, a, err)
		case mayBeDone(op):
			done++
		}
	})
	if done == 0 {
		t.Error("none of the operations that were tried is one")
	}
}

func TestP10WhatIsMade(t *testing.T) {
	m, _ := Of([]api.Atom{
		{Type: api.Count, Key: "a", Who: 2, N: 10},
		{Type: api.Count, Key: "a", Who: 3, N: 500},
		{Type: api.Count, Key: "b", Who: 2, N: 600},
		{Type: api.Net, Key: "a", Who: 2, N: 20},
		{Type: api.Net, Key: "a", Side: 1, Who: 2, N: 30},
		{Type: api.Net, Key: "a", Side: 1, Who: 0, N: 700},
		{Type: api.Grow, Key: "a", Elem: "x"},
		{Type: api.Two, Key: "a", Side: 1, Elem: "x"},
		{Type: api.Last, Key: "a", Who: 4, N: 9, Elem: "x"},
	})
	for _, c := range []struct {
		op   api.Op
		want api.Atom
	}{
		{api.Op{Type: api.Count, Key: "a", N: 1}, api.Atom{Type: api.Count, Key: "a", Who: 2, N: 11}},
		{api.Op{Type: api.Count, Key: "c", N: 1000}, api.Atom{Type: api.Count, Key: "c", Who: 2, N: 1000}},
		{api.Op{Type: api.Net, Key: "a", N: 5}, api.Atom{Type: api.Net, Key: "a", Who: 2, N: 25}},
		{api.Op{Type: api.Net, Key: "a", N: -5}, api.Atom{Type: api.Net, Key: "a", Side: 1, Who: 2, N: 35}},
		{api.Op{Type: api.Net, Key: "c", N: -1000}, api.Atom{Type: api.Net, Key: "c", Side: 1, Who: 2, N: 1000}},
		{api.Op{Type: api.Grow, Key: "a", Elem: "x"}, api.Atom{Type: api.Grow, Key: "a", Elem: "x"}},
		{api.Op{Type: api.Grow, Key: "a"}, api.Atom{Type: api.Grow, Key: "a"}},
		{api.Op{Type: api.Two, Key: "a", Elem: "x"}, api.Atom{Type: api.Two, Key: "a", Elem: "x"}},
		{api.Op{Type: api.Two, Key: "a", Side: 1, Elem: "y"}, api.Atom{Type: api.Two, Key: "a", Side: 1, Elem: "y"}},
		{api.Op{Type: api.Last, Key: "a", Elem: "a"}, api.Atom{Type: api.Last, Key: "a", Who: 2, N: 10, Elem: "a"}},
		{api.Op{Type: api.Last, Key: "b"}, api.Atom{Type: api.Last, Key: "b", Who: 2, N: 1}},
	} {
		if a, err := m.Change(2, c.op); a != c.want || err != api.OK {
			t.Errorf("P10: %+v makes %+v, %d, not %+v", c.op, a, err, c.want)
		}
	}
}

func TestP10AboveMaxN(t *testing.T) {
	m, _ := Of([]api.Atom{
		{Type: api.Count, Key: "a", Who: 2, N: api.MaxN - 1000},
		{Type: api.Net, Key: "a", Who: 2, N: api.MaxN - 1},
		{Type: api.Net, Key: "a", Side: 1, Who: 2, N: api.MaxN - 2},
		{Type: api.Last, Key: "a", Who: 4, N: api.MaxN},
		{Type: api.Last, Key: "b", Who: 4, N: api.MaxN - 1},
	})
	for _, c := range []struct {
		op   api.Op
		who  int
		n    int
		want api.Errno
	}{
		{api.Op{Type: api.Count, Key: "a", N: 1000}, 2, api.MaxN, api.OK},
		{api.Op{Type: api.Count, Key: "a", N: 1001}, 2, 0, api.ErrOp},
		{api.Op{Type: api.Count, Key: "a", N: 1000}, 1, 1000, api.OK},
		{api.Op{Type: api.Net, Key: "a", N: 1}, 2, api.MaxN, api.OK},
		{api.Op{Type: api.Net, Key: "a", N: 2}, 2, 0, api.ErrLarge},
		{api.Op{Type: api.Net, Key: "a", N: -2}, 2, api.MaxN, api.OK},
		{api.Op{Type: api.Net, Key: "a", N: -3}, 2, 0, api.ErrLarge},
		{api.Op{Type: api.Net, Key: "a", N: -1000}, 3, 1000, api.OK},
		{api.Op{Type: api.Last, Key: "a", Elem: "x"}, 5, 0, api.ErrLarge},
		{api.Op{Type: api.Last, Key: "b", Elem: "x"}, 0, api.MaxN, api.OK},
	} {
		a, err := m.Change(c.who, c.op)
		if err != c.want || a.N != c.n || err != api.OK && a != (api.Atom{}) {
			t.Errorf("P10: %+v makes %+v, %d, not N %d, %d", c.op, a, err, c.n, c.want)
		}
	}
	m.Add([]api.Atom{{Type: api.Count, Key: "a", Who: 2, N: api.MaxN - 999}})
	if a, err := m.Change(2, api.Op{Type: api.Count, Key: "a", N: 1000}); a != (api.Atom{}) || err != api.ErrLarge {
		t.Errorf("P10: Count one above MaxN makes %+v, %d", a, err)
	}
}
