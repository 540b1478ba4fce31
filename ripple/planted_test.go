package ripple

import (
	"slices"
	"testing"

	"ripple/api"
	"ripple/record"
)

// planted gives a cluster whose replica 0 was started from a log with these atoms: states that updates alone would take too long to get to.
func planted(t *testing.T, atoms ...api.Atom) *Cluster {
	t.Helper()
	x, _ := New(api.Config{Replicas: 2, Room: 2, Edges: []api.Edge{{A: 0, B: 1}}})
	x.Crash(0)
	x.replicas[0].log = record.Record{Kind: record.Whole, Number: 1, State: atoms}.Bytes()
	if err := x.Start(0); err != api.OK {
		t.Fatalf("Start = %d", err)
	}
	if told, _ := x.State(0); !slices.Equal(told, atoms) {
		t.Fatalf("P11: State = %v, not %v", told, atoms)
	}
	return x
}

var nearMaxN = []api.Atom{
	{Type: api.Count, Key: "a", Who: 0, N: api.MaxN - 1},
	{Type: api.Count, Key: "a", Who: 1, N: api.MaxN},
	{Type: api.Net, Key: "a", Who: 0, N: api.MaxN - 1000},
	{Type: api.Net, Key: "a", Side: 1, Who: 0, N: api.MaxN - 1},
	{Type: api.Last, Key: "a", Who: 5, N: api.MaxN - 1, Elem: "x"},
	{Type: api.Last, Key: "b", Who: 5, N: api.MaxN},
}

func TestP10LargeChangesNothing(t *testing.T) {
	x := planted(t, nearMaxN...)
	log, _ := x.Log(0)
	for _, op := range []api.Op{
		{Type: api.Count, Key: "a", N: 2},
		{Type: api.Count, Key: "a", N: 1000},
		{Type: api.Net, Key: "a", N: -2},
		{Type: api.Last, Key: "b"},
	} {
		if err := x.Update(0, op); err != api.ErrLarge {
			t.Errorf("P10: Update(%+v) = %d", op, err)
		}
		if err := x.Torn(0, op, 9); err != api.ErrLarge {
			t.Errorf("P11: Torn(%+v) = %d", op, err)
		}
		op.Side = 2
		if err := x.Update(0, op); err != api.ErrOp {
			t.Errorf("P10: Update(%+v) = %d: ErrOp is named first", op, err)
		}
	}
	told, _ := x.State(0)
	at, _ := x.Replica(0)
	again, _ := x.Log(0)
	if !slices.Equal(told, nearMaxN) || !at.Up || at.Number != 1 || at.Base != 1 || again != log {
		t.Errorf("P10: changed by what is too large: %v, %+v", told, at)
	}
	if err := x.Crash(0); err != api.OK {
		t.Errorf("P11: Crash = %d", err)
	}
	if err := x.Update(0, api.Op{Type: api.Last, Key: "b"}); err != api.ErrDown {
		t.Errorf("P10: Update of one that is down = %d: ErrDown is named first", err)
	}
}

func TestP10UpToMaxN(t *testing.T) {
	x := planted(t, nearMaxN...)
	for _, op := range []api.Op{
		{Type: api.Count, Key: "a", N: 1},
		{Type: api.Net, Key: "a", N: 1000},
		{Type: api.Net, Key: "a", N: -1},
		{Type: api.Last, Key: "a", Elem: "w"},
	} {
		if err := x.Update(0, op); err != api.OK {
			t.Errorf("P10: Update(%+v) = %d", op, err)
		}
		if err := x.Update(0, op); err != api.ErrLarge {
			t.Errorf("P10: the second Update(%+v) = %d", op, err)
		}
	}
	x.Crash(0)
	x.Start(0)
	want := []api.Atom{
		{Type: api.Count, Key: "a", Who: 0, N: api.MaxN},
		{Type: api.Count, Key: "a", Who: 1, N: api.MaxN},
		{Type: api.Net, Key: "a", Who: 0, N: api.MaxN},
		{Type: api.Net, Key: "a", Side: 1, Who: 0, N: api.MaxN},
		{Type: api.Last, Key: "a", Who: 0, N: api.MaxN, Elem: "w"},
		{Type: api.Last, Key: "b", Who: 5, N: api.MaxN},
	}
	if told, _ := x.State(0); !slices.Equal(told, want) {
		t.Errorf("P10: State = %v", told)
	}
	if v, _ := x.Read(0, api.Count, "a"); v.N != 2*api.MaxN {
		t.Errorf("P14: Read = %+v", v)
	}
}

// TestP11DamagedLog: the first record that is not whole ends the reading, though whole ones stand behind it.
func TestP11DamagedLog(t *testing.T) {
	x := planted(t, nearMaxN...)
	one, _ := x.Log(0)
	for range 3 {
		x.Update(0, api.Op{Type: api.Grow, Key: "a", Elem: "z"})
	}
	log, _ := x.Log(0)
	size := (len(log) - len(one)) / 3
	for at := range log {
		x.Crash(0)
		wrong := []byte(log)
		wrong[at] ^= 0x10
		x.replicas[0].log = wrong
		x.Start(0)
		whole, number, atoms := 0, 0, 0
		if at >= len(one) {
			number = 1 + (at-len(one))/size
			whole = len(one) + (number-1)*size
			atoms = len(nearMaxN) + min(1, number-1)
		}
		if told, _ := x.State(0); len(told) != atoms {
			t.Fatalf("P11: with byte %d wrong: the state is %v", at, told)
		}
		p, _ := x.Replica(0)
		if left, _ := x.Log(0); left != log[:whole] || p.Number != number || p.Base != number || !p.Up {
			t.Fatalf("P11: with byte %d wrong: %d bytes are left of %d, not %d; %+v", at, len(left), len(log), whole, p)
		}
	}
}

// TestP11WhatIsLost: what a replica knows of others is lost with it, what is counted from New on is not.
func TestP11WhatIsLost(t *testing.T) {
	for _, down := range []func(x *Cluster) api.Errno{
		func(x *Cluster) api.Errno { return x.Crash(0) },
		func(x *Cluster) api.Errno { return x.Torn(0, api.Op{Type: api.Grow, Key: "a"}, 1) },
	} {
		x := planted(t, nearMaxN...)
		x.replicas[0].acked[1], x.replicas[0].frames, x.replicas[0].weight = 1, 7, 9
		if p, _ := x.Replica(0); !slices.Equal(p.Acked, []int{0, 1}) || p.Frames != 7 || p.Weight != 9 {
			t.Errorf("P14: Replica = %+v", p)
		}
		if err := down(x); err != api.OK {
			t.Fatalf("P11: %d", err)
		}
		if p := x.replicas[0]; len(p.state) != 0 || len(p.buffer) != 0 {
			t.Errorf("P11: one that is down has %v and %v", p.state, p.buffer)
		}
		for range 2 {
			if p, _ := x.Replica(0); !slices.Equal(p.Acked, []int{0, 0}) || p.Frames != 7 || p.Weight != 9 {
				t.Errorf("P11: Replica = %+v", p)
			}
			x.Start(0)
		}
	}
}

// TestP2AckedIsNew: an answer's list is not the replica's own.
func TestP2AckedIsNew(t *testing.T) {
	x := planted(t, nearMaxN...)
	p, _ := x.Replica(0)
	for i := range p.Acked[:cap(p.Acked)] {
		p.Acked[:cap(p.Acked)][i] = -7
	}
	if x.replicas[0].acked != [api.MaxReplicas]int{} {
		t.Errorf("P2: written into: %v", x.replicas[0].acked)
	}
}
