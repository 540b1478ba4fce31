package ripple_test

import (
	"strconv"
	"testing"

	"ripple/api"
)

// TestP13Twice: what arrives a second time is nothing new, and is told to be there once more.
func TestP13Twice(t *testing.T) {
	for _, c := range settings(line(false, false, 8)) {
		p := fresh(t, c)
		p.update(t, 0, count(3))
		p.send(t, 0, 1)
		p.copied(t, 0)
		p.deliver(t, 0)
		log, _ := p.x.Log(1)
		p.deliver(t, 0)
		p.at(t, 1, true, 1, 0)
		p.buffer(t, 1, kept(1, 0, counted(0, 3)))
		if again, _ := p.x.Log(1); again != log {
			t.Errorf("P13: nothing new makes %q of the log %q", again, log)
		}
		p.flight(t, 2)
		p.frame(t, 0, api.FAck, 1, 0, 1)
		p.frame(t, 1, api.FAck, 1, 0, 1)
		p.deliver(t, 0)
		p.acked(t, 0, 0, 1, 0)
		p.deliver(t, 0) // no news
		p.acked(t, 0, 0, 1, 0)
		p.at(t, 0, true, 1, 1)
	}
}

// TestP13RR: of a frame of which a part is known just the new part is kept with RR, and the whole without; in the log too.
func TestP13RR(t *testing.T) {
	for _, c := range settings(line(false, false, 8)) {
		p := fresh(t, c)
		p.update(t, 0, grow("x"))
		p.send(t, 0, 1)
		p.update(t, 0, grow("y"))
		p.send(t, 0, 1)
		p.deliver(t, 0)
		p.deliver(t, 0)
		news := []api.Atom{grown("y")}
		if !c.RR {
			news = []api.Atom{grown("x"), grown("y")}
		}
		p.buffer(t, 1, kept(1, 0, grown("x")), kept(2, 0, news...))
		if log, _ := p.x.Log(1); log != recordOf(1, 1, []api.Atom{grown("x")}).bytes+recordOf(1, 2, news).bytes {
			t.Errorf("P13: with RR %v: the log is %q", c.RR, log)
		}
		p.state(t, 1, grown("x"), grown("y"))
	}
}

// TestP13Full: a whole state is taken in like any other: as one entry, of which RR keeps what is new.
func TestP13Full(t *testing.T) {
	for _, c := range settings(line(false, false, 1)) {
		p := fresh(t, c)
		p.update(t, 1, grow("y"))
		for _, elem := range []string{"x", "y", "z"} {
			p.update(t, 0, grow(elem))
		}
		p.send(t, 0, 1)
		p.frame(t, 0, api.FFull, 0, 1, 3, grown("x"), grown("y"), grown("z"))
		p.copied(t, 0)
		p.deliver(t, 0)
		if c.RR {
			p.buffer(t, 1, kept(2, 0, grown("x"), grown("z")))
		} else {
			p.buffer(t, 1, kept(2, 0, grown("x"), grown("y"), grown("z")))
		}
		p.at(t, 1, true, 2, 1)
		p.deliver(t, 0)
		p.at(t, 1, true, 2, 1) // nothing new
		p.frame(t, 0, api.FAck, 1, 0, 3)
		p.frame(t, 1, api.FAck, 1, 0, 3)
		p.deliver(t, 0)
		p.at(t, 0, true, 3, 3)
		p.acked(t, 0, 0, 3, 0)
	}
}

// TestP13OutOfOrder: the later frame first: it has what the earlier one has; the earlier one's FAck is no step back.
func TestP13OutOfOrder(t *testing.T) {
	for _, c := range settings(line(false, false, 8)) {
		p := fresh(t, c)
		p.update(t, 0, grow("x"))
		p.send(t, 0, 1)
		p.update(t, 0, grow("y"))
		p.send(t, 0, 1)
		p.deliver(t, 1)
		p.buffer(t, 1, kept(1, 0, grown("x"), grown("y")))
		p.deliver(t, 1)
		p.acked(t, 0, 0, 2, 0)
		p.at(t, 0, true, 2, 2)
		p.update(t, 0, grow("z"))
		p.deliver(t, 0) // late
		p.at(t, 1, true, 1, 0)
		p.frame(t, 0, api.FAck, 1, 0, 1)
		p.deliver(t, 0)
		p.acked(t, 0, 0, 2, 0)
		p.at(t, 0, true, 3, 2)
		p.buffer(t, 0, kept(3, 0, grown("z")))
	}
}

// TestP13LowerGrade: an old count, and an old register, are nothing new.
func TestP13LowerGrade(t *testing.T) {
	for _, c := range settings(line(false, false, 8)) {
		p := fresh(t, c)
		write := func(elem string) api.Op { return api.Op{Type: api.Last, Key: "a", Elem: elem} }
		p.update(t, 0, count(3))
		p.update(t, 0, write("old"))
		p.send(t, 0, 1)
		p.update(t, 0, count(4))
		p.update(t, 0, write("new"))
		p.over(t, 0, 1)
		p.deliver(t, 0)
		p.at(t, 1, true, 1, 0)
		p.state(t, 1, counted(0, 7), api.Atom{Type: api.Last, Key: "a", N: 2, Elem: "new"})
	}
}

// TestP13NoAtom: a frame with nothing is nothing new, and tells up to where the sender is.
func TestP13NoAtom(t *testing.T) {
	p := fresh(t, line(true, true, 8))
	p.send(t, 0, 1)
	p.frame(t, 0, api.FDelta, 0, 1, 0)
	p.deliver(t, 0)
	p.frame(t, 0, api.FAck, 1, 0, 0)
	p.deliver(t, 0)
	p.acked(t, 0, 0, 0, 0)
	p.at(t, 0, true, 0, 0)
	p.at(t, 1, true, 0, 0)
	p.logSize(t, 1, 0)
	p.flight(t, 0)
}

// TestP13LeastAcked: entries are given up when all neighbours have them, and Base goes with them.
func TestP13LeastAcked(t *testing.T) {
	for _, c := range settings(starOf(4, 8)) {
		p := fresh(t, c)
		for n := 1; n <= 4; n++ {
			p.update(t, 0, count(1))
			p.send(t, 0, 1+(n-1)%3) // up to 1 to 1, 2 to 2, 3 to 3, 4 to 1
		}
		for range 4 {
			p.deliver(t, 0)
		}
		p.deliver(t, 3) // 4 of 1
		p.acked(t, 0, 0, 4, 0, 0)
		p.at(t, 0, true, 4, 0)
		p.deliver(t, 2) // 3 of 3
		p.at(t, 0, true, 4, 0)
		p.buffer(t, 0, kept(1, 0, counted(0, 1)), kept(2, 0, counted(0, 2)), kept(3, 0, counted(0, 3)), kept(4, 0, counted(0, 4)))
		p.deliver(t, 1) // 2 of 2: all have 2
		p.acked(t, 0, 0, 4, 2, 3)
		p.at(t, 0, true, 4, 2)
		p.buffer(t, 0, kept(3, 0, counted(0, 3)), kept(4, 0, counted(0, 4)))
		p.deliver(t, 0) // 1 of 1: no news
		p.acked(t, 0, 0, 4, 2, 3)
		p.at(t, 0, true, 4, 2)
		p.over(t, 0, 2)
		p.at(t, 0, true, 4, 3)
		p.buffer(t, 0, kept(4, 0, counted(0, 4)))
		p.over(t, 0, 3)
		p.at(t, 0, true, 4, 4)
		p.buffer(t, 0)
	}
}

// TestP13BaseIsNoStepBack: an FAck up to below Base, which went up by want of room, or by Start.
func TestP13BaseIsNoStepBack(t *testing.T) {
	for _, c := range settings(line(false, false, 1)) {
		p := fresh(t, c)
		p.update(t, 0, grow("x"))
		p.send(t, 0, 1)
		p.deliver(t, 0)
		p.copied(t, 0)
		p.update(t, 0, grow("y"))
		p.update(t, 0, grow("z"))
		p.at(t, 0, true, 3, 2)
		p.deliver(t, 0)
		p.acked(t, 0, 0, 1, 0)
		p.at(t, 0, true, 3, 2)
		p.buffer(t, 0, kept(3, 0, grown("z")))
		p.crash(t, 0)
		p.start(t, 0)
		p.acked(t, 0, 0, 0, 0)
		p.deliver(t, 0) // of before the crash, and right nevertheless
		p.acked(t, 0, 0, 1, 0)
		p.at(t, 0, true, 3, 3)
		p.send(t, 0, 1)
		p.frame(t, 0, api.FFull, 0, 1, 3, grown("x"), grown("y"), grown("z"))
	}
}

// TestP13MoreThanRoom: what arrives takes the room of what was there.
func TestP13MoreThanRoom(t *testing.T) {
	for room := 1; room <= api.MaxRoom; room++ {
		for _, c := range settings(line(false, false, room)) {
			p := fresh(t, c)
			for n := 1; n <= room+3; n++ {
				p.update(t, 0, grow(strconv.Itoa(n)))
				p.over(t, 0, 1)
				p.at(t, 0, true, n, n)
				p.at(t, 1, true, n, max(0, n-room))
				list, _ := p.x.Buffer(1)
				if len(list) != min(n, room) || list[0].Number != max(1, n-room+1) || list[len(list)-1].Origin != 0 {
					t.Fatalf("P9: with room for %d, after %d frames: %v", room, n, list)
				}
			}
		}
	}
}

// TestP13Down: at one that is down nothing arrives, and nothing comes back, not even when it is up again.
func TestP13Down(t *testing.T) {
	for _, c := range settings(line(false, false, 8)) {
		p := fresh(t, c)
		p.update(t, 0, grow("x"))
		p.send(t, 0, 1)
		p.copied(t, 0)
		p.crash(t, 1)
		p.deliver(t, 0)
		p.flight(t, 1)
		p.logSize(t, 1, 0)
		p.start(t, 1)
		p.state(t, 1)
		p.deliver(t, 0) // what was in flight meanwhile is not lost
		p.state(t, 1, grown("x"))
		p.crash(t, 0)
		p.copied(t, 0)
		p.deliver(t, 0) // the FAck
		p.at(t, 0, false, 0, 0)
		p.acked(t, 0, 0, 0, 0)
		p.start(t, 0)
		p.acked(t, 0, 0, 0, 0)
		p.deliver(t, 0) // its copy
		p.acked(t, 0, 0, 1, 0)
	}
}

// TestP13CrashInFlight: frames of and to a replica outlast its crash, and do what they say.
func TestP13CrashInFlight(t *testing.T) {
	for _, c := range settings(line(false, false, 8)) {
		p := fresh(t, c)
		p.update(t, 0, grow("x"))
		p.update(t, 1, grow("y"))
		p.send(t, 0, 1)
		p.send(t, 1, 0)
		p.send(t, 1, 2)
		p.torn(t, 1, grow("z"), 20)
		p.flight(t, 3)
		p.deliver(t, 2) // of one that is down
		p.state(t, 2, grown("y"))
		p.frame(t, 2, api.FAck, 2, 1, 1)
		p.start(t, 1)
		p.update(t, 1, grow("w"))
		p.deliver(t, 0)
		p.deliver(t, 0)
		p.state(t, 0, grown("x"), grown("y"))
		p.state(t, 1, grown("w"), grown("x"), grown("y"))
		p.deliver(t, 0) // of 2: up to 1, and Base is 1
		p.acked(t, 1, 0, 0, 1)
		p.send(t, 1, 2)
		p.frame(t, 2, api.FDelta, 1, 2, 3, grown("w"), grown("x"))
		p.send(t, 1, 0)
		p.frame(t, 3, api.FFull, 1, 0, 3, grown("w"), grown("x"), grown("y"))
		p.deliver(t, 0)
		p.deliver(t, 0)
		p.acked(t, 0, 0, 1, 0)
		p.acked(t, 1, 1, 0, 1)
	}
}

// TestP13Origin: an entry's Origin is who sent it, not who made it.
func TestP13Origin(t *testing.T) {
	p := fresh(t, line(true, true, 8))
	p.update(t, 0, count(3))
	p.over(t, 0, 1)
	p.over(t, 1, 2)
	p.buffer(t, 1, kept(1, 0, counted(0, 3)))
	p.buffer(t, 2, kept(1, 1, counted(0, 3)))
	p.update(t, 2, count(5))
	p.send(t, 2, 1)
	p.frame(t, 0, api.FDelta, 2, 1, 2, counted(2, 5))
	p.deliver(t, 0)
	p.buffer(t, 1, kept(1, 0, counted(0, 3)), kept(2, 2, counted(2, 5)))
	if v, err := p.x.Read(1, api.Count, "a"); v.N != 8 || err != api.OK {
		t.Errorf("P14: Read = %+v, %d", v, err)
	}
}
