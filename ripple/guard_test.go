package ripple_test

import (
	"strconv"
	"sync"
	"testing"

	"ripple/api"
	"ripple/ripple"
)

// together runs a function so many times at the same time.
func together(times int, do func(i int)) {
	var workers sync.WaitGroup
	for i := range times {
		workers.Add(1)
		go func() {
			defer workers.Done()
			do(i)
		}()
	}
	workers.Wait()
}

// TestGuardedUpdates: no update is lost among many at the same time.
func TestGuardedUpdates(t *testing.T) {
	p := fresh(t, api.Config{Replicas: 2, Room: 3})
	together(16, func(i int) {
		for n := range 250 {
			if err := p.x.Update(1, count(1)); err != api.OK {
				t.Errorf("P10: Update = %d", err)
			}
			p.x.Update(1, grow(strconv.Itoa(1000*i+n)))
		}
	})
	v, _ := p.x.Read(1, api.Count, "a")
	w, _ := p.x.Read(1, api.Grow, "a")
	if v.N != 4000 || len(w.Elems) != 4000 {
		t.Errorf("P10: %d counted and %d added by 4000 updates each", v.N, len(w.Elems))
	}
	p.at(t, 1, true, 8000, 7997)
	before, _ := p.x.State(1)
	p.x.Crash(1)
	p.x.Start(1)
	p.state(t, 1, before...)
	p.at(t, 1, true, 8000, 8000)
}

// scribbleFrame writes into a frame that came out, which is no other call's.
func scribbleFrame(x *ripple.Cluster, k int) {
	f, _ := x.Frame(k)
	scribble(f.State, api.Atom{Type: -7})
}

// TestGuardedSends: of many frames that are sent at the same time each is counted, and what all of them bring is there in the end.
func TestGuardedSends(t *testing.T) {
	p := fresh(t, api.Config{Replicas: 3, Room: 3, Edges: all(3), BP: true, RR: true})
	together(12, func(i int) {
		r := i % 3
		for n := range 100 {
			p.x.Update(r, count(1))
			if err := p.x.Send(r, (r+1+n%2)%3); err != api.OK {
				t.Errorf("P12: Send = %d", err)
			}
			p.x.Deliver(0)
			p.x.Deliver(n % 5)
		}
	})
	p.settle(t, ackArrives)
	for r := range 3 {
		p.state(t, r, counted(0, 400), counted(1, 400), counted(2, 400))
		if at, _ := p.x.Replica(r); at.Frames != 400+3*2 {
			t.Errorf("P12: %d frames of replica %d are counted, not 406", at.Frames, r)
		}
	}
}

// TestGuardedCalls: every call at the same time as every other one, of which none ends in a panic, nor leaves a lock behind.
func TestGuardedCalls(t *testing.T) {
	x, _ := ripple.New(api.Config{Replicas: 3, Room: 2, Edges: all(3)})
	calls := []func(r, n int){
		func(r, n int) { x.Update(r, count(1)) },
		func(r, n int) { x.Update(r, grow(strconv.Itoa(n))) },
		func(r, n int) { x.Torn(r, count(1), n%50) },
		func(r, n int) { x.Crash(r) },
		func(r, n int) { x.Start(r) },
		func(r, n int) { x.Start(r) },
		func(r, n int) { x.Compact(r) },
		func(r, n int) { x.State(r) },
		func(r, n int) { x.Read(r, api.Grow, "a") },
		func(r, n int) { x.Buffer(r) },
		func(r, n int) { x.Log(r) },
		func(r, n int) { x.Replica(r) },
		func(r, n int) { x.Send(r, n%3) },
		func(r, n int) { x.Send(r, n%4) },
		func(r, n int) { x.Deliver(n % 7) },
		func(r, n int) { x.Deliver(x.Flight() - 1) },
		func(r, n int) { x.Copy(n % 5) },
		func(r, n int) { x.Drop(n % 9) },
		func(r, n int) { scribbleFrame(x, n%7) },
	}
	together(len(calls), func(i int) {
		for n := range 300 {
			calls[i](n%5-1, n)
		}
	})
	for r := range 3 {
		x.Start(r)
		before, _ := x.State(r)
		x.Crash(r)
		x.Start(r)
		after, err := x.State(r)
		if len(before) != len(after) || err != api.OK {
			t.Errorf("P16: State(%d) = %v, %d, and %v before the crash", r, after, err, before)
		}
	}
}
