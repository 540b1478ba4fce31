package ripple_test

import (
	"math"
	"slices"
	"testing"

	"ripple/api"
)

// size: of the record of count's atom: kind, Number, length, eighteen bytes, sum.
const size = 1 + 8 + 8 + 18 + 4

func TestP11Log(t *testing.T) {
	p := fresh(t, api.Config{Replicas: 2, Room: 2, Edges: []api.Edge{edge(0, 1)}})
	p.update(t, 1, count(5))
	want := "\x01" + "\x00\x00\x00\x00\x00\x00\x00\x01" + "\x00\x00\x00\x00\x00\x00\x00\x12" +
		"\x00\x00\x00\x00\x00\x00\x00\x01" + "\x01\x01a\x00\x01\x00\x00\x00\x00\x05" +
		"\x04\xe8\x00\x7f" // b, and a: 1 + 1 + 1 + 18 + 1 + 1 + 1 + 97 + 1 + 5
	if log, err := p.x.Log(1); log != want || err != api.OK {
		t.Errorf("P11: Log = %q, %d, not %q", log, err, want)
	}
	for n := range 5 {
		p.logSize(t, 1, (n+1)*size)
		p.update(t, 1, count(5))
	}
	p.logSize(t, 0, 0)
}

// TestP11Example7: twice, as what was read from the log must do as well as what was taken in.
func TestP11Example7(t *testing.T) {
	p := fresh(t, api.Config{Replicas: 2, Room: 2, Edges: []api.Edge{edge(0, 1)}})
	for _, n := range []int{1, 2, 3, 4} {
		p.update(t, 0, count(n))
	}
	for range 2 {
		p.crash(t, 0)
		p.at(t, 0, false, 0, 0)
		p.logSize(t, 0, 4*size)
		p.start(t, 0)
		p.at(t, 0, true, 4, 4)
		p.state(t, 0, counted(0, 10))
		if list, err := p.x.Buffer(0); len(list) != 0 || err != api.OK {
			t.Errorf("P11: Buffer after Start = %v, %d", list, err)
		}
	}
	for n := 5; n <= 8; n++ {
		p.update(t, 0, count(1))
		p.at(t, 0, true, n, max(4, n-2))
	}
	p.state(t, 0, counted(0, 14))
}

// TestP11EmptyLog: nothing comes of nothing.
func TestP11EmptyLog(t *testing.T) {
	p := fresh(t, api.Config{Replicas: 2, Room: 2})
	p.crash(t, 0)
	p.at(t, 0, false, 0, 0)
	p.start(t, 0)
	p.at(t, 0, true, 0, 0)
	p.state(t, 0)
	p.logSize(t, 0, 0)
	p.update(t, 0, count(1))
	p.at(t, 0, true, 1, 0)
}

// TestP11Keep: at every keep, from below 0 to beyond the record, behind nothing, records and a compacted log.
func TestP11Keep(t *testing.T) {
	keeps := []int{math.MinInt, math.MinInt + 1, -size, math.MaxInt}
	for keep := -2; keep <= size+2; keep++ {
		keeps = append(keeps, keep)
	}
	for _, keep := range keeps {
		for before := range 3 {
			for _, compacted := range []bool{false, true} {
				torn(t, keep, before, compacted)
			}
		}
	}
}

func torn(t *testing.T, keep, before int, compacted bool) {
	t.Helper()
	p := fresh(t, api.Config{Replicas: 2, Room: 8})
	for range before {
		p.update(t, 1, count(10))
	}
	if compacted {
		p.compact(t, 1)
	}
	log, _ := p.x.Log(1)
	told, _ := p.x.State(1)
	p.torn(t, 1, count(7), keep)
	p.at(t, 1, false, 0, 0)
	p.logSize(t, 1, len(log)+max(0, min(keep, size)))
	p.start(t, 1)
	if keep >= size {
		p.at(t, 1, true, before+1, before+1)
		p.state(t, 1, counted(1, 10*before+7))
		p.logSize(t, 1, len(log)+size)
	} else {
		p.at(t, 1, true, before, before)
		p.state(t, 1, told...)
		p.logSize(t, 1, len(log))
	}
	p.update(t, 1, count(1))
	p.crash(t, 1)
	p.start(t, 1)
}

func TestP11Example8(t *testing.T) {
	p := fresh(t, api.Config{Replicas: 1, Room: 1})
	p.update(t, 0, count(3))
	p.torn(t, 0, count(2), 5)
	p.logSize(t, 0, size+5)
	p.start(t, 0)
	p.state(t, 0, counted(0, 3))
	p.logSize(t, 0, size)
	p.torn(t, 0, count(2), 99)
	p.start(t, 0)
	p.state(t, 0, counted(0, 5))
	p.at(t, 0, true, 2, 2)
}

// TestP11TornAgainAndAgain: what is torn never gets into the way of what comes behind it.
func TestP11TornAgainAndAgain(t *testing.T) {
	p := fresh(t, api.Config{Replicas: 1, Room: 3})
	for keep := range size {
		p.torn(t, 0, count(500), keep)
		p.start(t, 0)
		p.state(t, 0, slices.Repeat([]api.Atom{counted(0, 2*keep)}, min(keep, 1))...)
		p.update(t, 0, count(1))
		p.torn(t, 0, count(1), size)
		p.start(t, 0)
		p.state(t, 0, counted(0, 2*keep+2))
		p.at(t, 0, true, 2*keep+2, 2*keep+2)
		if keep%7 == 6 {
			p.compact(t, 0)
		}
	}
}

func TestP11Compact(t *testing.T) {
	p := fresh(t, api.Config{Replicas: 1, Room: 2})
	p.compact(t, 0)
	p.logSize(t, 0, 1+8+8+8+4)
	p.crash(t, 0)
	p.start(t, 0)
	p.at(t, 0, true, 0, 0)
	p.state(t, 0)
	for n := range 4 {
		p.update(t, 0, count(n+1))
		p.update(t, 0, grow("x"))
	}
	before, _ := p.x.Buffer(0)
	p.compact(t, 0)
	p.compact(t, 0)
	if log, _ := p.x.Log(0); log != recordOf(2, 8, []api.Atom{counted(0, 10), grown("x")}).bytes {
		t.Errorf("P11: the log is %q after Compact", log)
	}
	if after, _ := p.x.Buffer(0); len(after) != 2 || !sameEntry(after[0], before[0]) || !sameEntry(after[1], before[1]) {
		t.Errorf("P11: Compact makes %v of the buffer %v", after, before)
	}
	p.at(t, 0, true, 8, 6)
	p.update(t, 0, count(1))
	p.crash(t, 0)
	p.start(t, 0)
	p.state(t, 0, counted(0, 11), grown("x"))
	p.at(t, 0, true, 9, 9)
}

// TestP11OneAlone: what is done to a replica is nothing to the others.
func TestP11OneAlone(t *testing.T) {
	p := fresh(t, api.Config{Replicas: 6, Room: 2, Edges: all(6)})
	for r := range 6 {
		p.update(t, r, count(r+1))
	}
	p.crash(t, 2)
	p.torn(t, 3, grow("x"), 4)
	p.compact(t, 4)
	p.start(t, 3)
	p.state(t, 3, counted(3, 4))
	for _, r := range []int{0, 1, 4, 5} {
		p.at(t, r, true, 1, 0)
		p.state(t, r, counted(r, r+1))
	}
	p.at(t, 2, false, 0, 0)
}
