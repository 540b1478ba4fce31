package ripple_test

import (
	"math"
	"strconv"
	"testing"

	"ripple/api"
)

// noFrames: numbers that no frame has while so many are in flight.
func noFrames(flight int) []int {
	return []int{math.MinInt, -1 << 32, -api.MaxFlight, -1, flight, flight + 1, api.MaxFlight, 1 << 32, math.MaxInt}
}

// TestP13NoSuchFrame: below the first one and beyond the last one there is none, nothing is told of it, and nothing changed.
func TestP13NoSuchFrame(t *testing.T) {
	p := fresh(t, line(true, true, 8))
	for n := range 5 {
		for _, k := range noFrames(n) {
			p.noFrame(t, k)
		}
		p.update(t, 0, grow(strconv.Itoa(n)))
		p.send(t, 0, 1)
		p.frame(t, n, api.FDelta, 0, 1, n+1, p.m.flight[n].State...)
	}
	p.deliver(t, 4)
	p.frame(t, 4, api.FAck, 1, 0, 5)
	p.deliver(t, 4)
	p.noFrame(t, 4)
	p.drop(t, 3)
	p.noFrame(t, 3)
	p.copied(t, 2)
	p.frame(t, 3, api.FDelta, 0, 1, 3, grown("0"), grown("1"), grown("2"))
	p.noFrame(t, 4)
}

func (p pair) noFrame(t *testing.T, k int) {
	t.Helper()
	f, err := p.x.Frame(k)
	if err != api.ErrNone || f.Kind != 0 || f.From != 0 || f.To != 0 || f.Upto != 0 || f.State != nil {
		t.Errorf("P13: Frame(%d) = %+v, %d", k, f, err)
	}
	if d, o, c := p.x.Deliver(k), p.x.Drop(k), p.x.Copy(k); d != api.ErrNone || o != api.ErrNone || c != api.ErrNone {
		t.Errorf("P13: Deliver, Drop, Copy of %d = %d, %d, %d", k, d, o, c)
	}
	p.m.agree(t, p.x)
}

// numbered has so many frames in flight from 0 to 1, whose Upto is one more than their number.
func numbered(t *testing.T, frames int) pair {
	t.Helper()
	p := fresh(t, line(true, true, 8))
	for n := range frames {
		p.update(t, 0, grow(strconv.Itoa(n)))
		p.send(t, 0, 1)
	}
	return p
}

func (p pair) uptos(t *testing.T, want ...int) {
	t.Helper()
	p.flight(t, len(want))
	for k, upto := range want {
		if f, err := p.x.Frame(k); f.Upto != upto || err != api.OK {
			t.Fatalf("P13: Frame(%d) = %+v, %d, not up to %d", k, f, err, upto)
		}
	}
}

// TestP13Order: the one that was sent first is the first, wherever one is taken out; what is sent once more is the last.
func TestP13Order(t *testing.T) {
	p := numbered(t, 5)
	p.uptos(t, 1, 2, 3, 4, 5)
	p.drop(t, 1)
	p.uptos(t, 1, 3, 4, 5)
	p.copied(t, 0)
	p.uptos(t, 1, 3, 4, 5, 1)
	p.drop(t, 0)
	p.uptos(t, 3, 4, 5, 1)
	p.drop(t, 3)
	p.uptos(t, 3, 4, 5)
	p.copied(t, 2)
	p.copied(t, 1)
	p.uptos(t, 3, 4, 5, 5, 4)
	p.deliver(t, 1) // its FAck is the last
	p.uptos(t, 3, 5, 5, 4, 4)
	p.frame(t, 4, api.FAck, 1, 0, 4)
	p.copied(t, 4)
	p.frame(t, 5, api.FAck, 1, 0, 4)
	p.deliver(t, 4)
	p.uptos(t, 3, 5, 5, 4, 4)
	for range 5 {
		p.drop(t, 0)
	}
	p.flight(t, 0)
}

// TestP13MaxFlight: so many are in flight and no more; one more that is sent is lost, and counted nevertheless.
func TestP13MaxFlight(t *testing.T) {
	p := numbered(t, api.MaxFlight-1)
	p.flight(t, 199)
	p.update(t, 2, grow("x"))
	p.send(t, 2, 1)
	p.flight(t, 200)
	p.frame(t, 199, api.FDelta, 2, 1, 1, grown("x"))
	for range 3 {
		p.send(t, 2, 1)
		p.copied(t, 0)
		p.copied(t, 199)
		p.flight(t, 200)
	}
	p.sentOff(t, 2, 4, 4)
	p.noFrame(t, 200)
	p.frame(t, 199, api.FDelta, 2, 1, 1, grown("x"))
	p.deliver(t, 199) // makes room for its own FAck
	p.flight(t, 200)
	p.frame(t, 199, api.FAck, 1, 2, 1)
	p.copied(t, 0)
	p.flight(t, 200)
	p.deliver(t, 199)
	p.acked(t, 2, 0, 1, 0)
	p.flight(t, 199)
	p.copied(t, 7)
	p.flight(t, 200)
	p.frame(t, 199, api.FDelta, 0, 1, 8, p.m.flight[7].State...)
	p.drop(t, 0)
	p.send(t, 1, 2)
	p.flight(t, 200)
}

// TestP13FramesStay: what a frame has is what was sent, whatever the sender does then.
func TestP13FramesStay(t *testing.T) {
	for _, c := range settings(line(false, false, 2)) {
		p := fresh(t, c)
		p.update(t, 0, count(3))
		p.send(t, 0, 1)
		p.crash(t, 0)
		p.start(t, 0)
		p.send(t, 0, 1)
		p.copied(t, 0)
		for range 5 {
			p.update(t, 0, count(1))
		}
		p.compact(t, 0)
		p.torn(t, 0, count(1), 4)
		p.frame(t, 0, api.FDelta, 0, 1, 1, counted(0, 3))
		p.frame(t, 1, api.FFull, 0, 1, 1, counted(0, 3))
		p.frame(t, 2, api.FDelta, 0, 1, 1, counted(0, 3))
	}
}
