package ripple_test

import (
	"math"
	"slices"
	"testing"

	"ripple/api"
)

func TestP10Example4(t *testing.T) {
	p := fresh(t, api.Config{Replicas: 3, Room: 8, Edges: []api.Edge{edge(0, 1), edge(1, 2)}})
	p.update(t, 0, count(3))
	p.at(t, 0, true, 1, 0)
	list, err := p.x.Buffer(0)
	want := []api.Entry{{Number: 1, Origin: 0, State: []api.Atom{counted(0, 3)}}}
	if !slices.EqualFunc(list, want, sameEntry) || err != api.OK {
		t.Errorf("P10: Buffer = %v, %d", list, err)
	}
	p.state(t, 1)
	p.state(t, 2)
}

func TestP10Example6(t *testing.T) {
	p := fresh(t, api.Config{Replicas: 2, Room: 1, Edges: []api.Edge{edge(0, 1)}})
	p.update(t, 0, count(3))
	p.update(t, 0, count(4))
	p.at(t, 0, true, 2, 1)
	list, _ := p.x.Buffer(0)
	if !slices.EqualFunc(list, []api.Entry{{Number: 2, State: []api.Atom{counted(0, 7)}}}, sameEntry) {
		t.Errorf("P9: Buffer = %v", list)
	}
}

func TestP10EachType(t *testing.T) {
	p := fresh(t, api.Config{Replicas: 6, Room: 8})
	for _, op := range []api.Op{
		{Type: api.Count, Key: "a", N: 1},
		{Type: api.Count, Key: "a", N: api.MaxStep},
		{Type: api.Count, Key: "abcd", N: 2},
		{Type: api.Net, Key: "a", N: api.MaxStep},
		{Type: api.Net, Key: "a", N: -api.MaxStep},
		{Type: api.Net, Key: "a", N: -1},
		{Type: api.Net, Key: "a", N: 1},
		{Type: api.Grow, Key: "a"},
		{Type: api.Grow, Key: "a", Elem: "12345678"},
		{Type: api.Two, Key: "a", Elem: "x"},
		{Type: api.Two, Key: "a", Elem: "x", Side: 1},
		{Type: api.Last, Key: "a", Elem: "zz"},
		{Type: api.Last, Key: "a", Elem: ""},
	} {
		p.update(t, 5, op)
		p.update(t, 2, op)
	}
	p.state(t, 5,
		api.Atom{Type: api.Count, Key: "a", Who: 5, N: 1001},
		api.Atom{Type: api.Count, Key: "abcd", Who: 5, N: 2},
		api.Atom{Type: api.Net, Key: "a", Who: 5, N: 1001},
		api.Atom{Type: api.Net, Key: "a", Side: 1, Who: 5, N: 1001},
		api.Atom{Type: api.Grow, Key: "a"},
		api.Atom{Type: api.Grow, Key: "a", Elem: "12345678"},
		api.Atom{Type: api.Two, Key: "a", Elem: "x"},
		api.Atom{Type: api.Two, Key: "a", Side: 1, Elem: "x"},
		api.Atom{Type: api.Last, Key: "a", Who: 5, N: 2},
	)
	p.at(t, 5, true, 13, 5)
	p.state(t, 0)
}

// TestP10KnownAlready: what the state has already is taken in nevertheless.
func TestP10KnownAlready(t *testing.T) {
	p := fresh(t, api.Config{Replicas: 1, Room: 8})
	for n := 1; n <= 3; n++ {
		p.update(t, 0, grow("x"))
		p.state(t, 0, grown("x"))
		p.at(t, 0, true, n, 0)
		list, _ := p.x.Buffer(0)
		if len(list) != n || !sameEntry(list[n-1], api.Entry{Number: n, State: []api.Atom{grown("x")}}) {
			t.Errorf("P10: after %d times the same: %v", n, list)
		}
	}
}

// wrongOps: each has one thing wrong.
var wrongOps = []api.Op{
	{},
	{Type: 0, Key: "a"}, {Type: 6, Key: "a"}, {Type: -1, Key: "a"}, {Type: math.MaxInt, Key: "a"}, {Type: math.MinInt, Key: "a"},
	{Type: api.Grow, Key: ""}, {Type: api.Grow, Key: "abcde"}, {Type: api.Last, Key: "ééa"},
	{Type: api.Count, Key: "a"}, {Type: api.Count, Key: "a", N: -1}, {Type: api.Count, Key: "a", N: api.MaxStep + 1}, {Type: api.Count, Key: "a", N: math.MaxInt}, {Type: api.Count, Key: "a", N: math.MinInt},
	{Type: api.Count, Key: "a", N: 1, Side: 1}, {Type: api.Count, Key: "a", N: 1, Side: -1}, {Type: api.Count, Key: "a", N: 1, Elem: "x"},
	{Type: api.Net, Key: "a"}, {Type: api.Net, Key: "a", N: api.MaxStep + 1}, {Type: api.Net, Key: "a", N: -api.MaxStep - 1}, {Type: api.Net, Key: "a", N: math.MaxInt}, {Type: api.Net, Key: "a", N: math.MinInt},
	{Type: api.Net, Key: "a", N: 1, Side: 1}, {Type: api.Net, Key: "a", N: -1, Side: 1}, {Type: api.Net, Key: "a", N: 1, Elem: "x"},
	{Type: api.Grow, Key: "a", Side: 1}, {Type: api.Grow, Key: "a", N: 1}, {Type: api.Grow, Key: "a", N: -1}, {Type: api.Grow, Key: "a", Elem: "123456789"},
	{Type: api.Two, Key: "a", Side: 2}, {Type: api.Two, Key: "a", Side: -1}, {Type: api.Two, Key: "a", N: 1}, {Type: api.Two, Key: "a", Elem: "123456789"}, {Type: api.Two, Key: "a", Side: math.MinInt},
	{Type: api.Last, Key: "a", Side: 1}, {Type: api.Last, Key: "a", N: 1}, {Type: api.Last, Key: "a", Elem: "123456789"},
}

// TestP10WrongOperations: of Torn too, which then leaves the replica up.
func TestP10WrongOperations(t *testing.T) {
	p := fresh(t, api.Config{Replicas: 2, Room: 2})
	p.update(t, 1, count(3))
	for _, op := range wrongOps {
		if err := p.x.Update(1, op); err != api.ErrOp {
			t.Errorf("P10: Update(%+v) = %d", op, err)
		}
		for _, keep := range []int{math.MinInt, 0, 5, math.MaxInt} {
			if err := p.x.Torn(1, op, keep); err != api.ErrOp {
				t.Errorf("P11: Torn(%+v, %d) = %d", op, keep, err)
			}
		}
		p.m.agree(t, p.x)
	}
}

// TestP1ErrorsInOrder: ErrReplica ahead of ErrDown ahead of ErrOp; nothing is told beside them, nothing changed.
func TestP1ErrorsInOrder(t *testing.T) {
	p := fresh(t, api.Config{Replicas: 2, Room: 2})
	p.update(t, 0, count(3))
	p.update(t, 1, grow("x"))
	p.crash(t, 1)
	for r, want := range map[int]api.Errno{-1: api.ErrReplica, 2: api.ErrReplica, 6: api.ErrReplica, math.MaxInt: api.ErrReplica, math.MinInt: api.ErrReplica, 1: api.ErrDown} {
		for _, op := range append(wrongOps, count(1)) {
			if err := p.x.Update(r, op); err != want {
				t.Errorf("P10: Update(%d, %+v) = %d", r, op, err)
			}
			if err := p.x.Torn(r, op, 9); err != want {
				t.Errorf("P11: Torn(%d, %+v) = %d", r, op, err)
			}
		}
		if err := p.x.Crash(r); err != want {
			t.Errorf("P11: Crash(%d) = %d", r, err)
		}
		if err := p.x.Compact(r); err != want {
			t.Errorf("P11: Compact(%d) = %d", r, err)
		}
		if told, err := p.x.State(r); told != nil || err != want {
			t.Errorf("P14: State(%d) = %v, %d", r, told, err)
		}
		if list, err := p.x.Buffer(r); list != nil || err != want {
			t.Errorf("P14: Buffer(%d) = %v, %d", r, list, err)
		}
		for _, kind := range []int{math.MinInt, 0, api.Count, api.Grow, 6} {
			if v, err := p.x.Read(r, kind, "a"); v.N != 0 || v.Elems != nil || err != want {
				t.Errorf("P14: Read(%d, %d) = %+v, %d", r, kind, v, err)
			}
		}
		if want == api.ErrReplica {
			at, err := p.x.Replica(r)
			if at.Up || at.Number != 0 || at.Base != 0 || at.Acked != nil || at.Frames != 0 || at.Weight != 0 || err != want {
				t.Errorf("P14: Replica(%d) = %+v, %d", r, at, err)
			}
			if log, err := p.x.Log(r); log != "" || err != want {
				t.Errorf("P14: Log(%d) = %q, %d", r, log, err)
			}
			if err := p.x.Start(r); err != want {
				t.Errorf("P11: Start(%d) = %d", r, err)
			}
		}
		p.m.agree(t, p.x)
	}
	if err := p.x.Start(0); err != api.ErrUp {
		t.Errorf("P11: Start of one that is up = %d", err)
	}
	p.m.agree(t, p.x)
}
