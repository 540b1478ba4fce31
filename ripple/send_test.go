package ripple_test

import (
	"math"
	"strconv"
	"testing"

	"ripple/api"
)

// TestP12ErrorsInOrder: ErrReplica ahead of ErrEdge ahead of ErrDown; nothing is changed by them.
func TestP12ErrorsInOrder(t *testing.T) {
	p := fresh(t, line(true, true, 2))
	p.update(t, 0, count(3))
	p.update(t, 1, grow("x"))
	p.send(t, 0, 1)
	for _, down := range []bool{false, true} {
		if down {
			p.crash(t, 0)
		}
		for _, none := range []int{-1, 3, api.MaxReplicas, math.MaxInt, math.MinInt} {
			for _, other := range []int{0, 1, 2, none} {
				p.sendFails(t, none, other, api.ErrReplica)
				p.sendFails(t, other, none, api.ErrReplica)
			}
		}
		for _, ends := range [][2]int{{0, 2}, {2, 0}, {0, 0}, {1, 1}, {2, 2}} {
			p.sendFails(t, ends[0], ends[1], api.ErrEdge)
		}
	}
	p.sendFails(t, 0, 1, api.ErrDown)
	p.flight(t, 1)
	p.sentOff(t, 0, 1, 1)
	p.send(t, 1, 0) // the one that is down is the other one: that's no error
	p.flight(t, 2)
}

func (p pair) sendFails(t *testing.T, r, q int, want api.Errno) {
	t.Helper()
	if err := p.x.Send(r, q); err != want {
		t.Errorf("P12: Send(%d, %d) = %d, not %d", r, q, err, want)
	}
	p.m.agree(t, p.x)
}

// TestP12Neighbours: an edge is one both ways, however it is written; where there is none nothing is sent.
func TestP12Neighbours(t *testing.T) {
	edges := []api.Edge{edge(0, 5), edge(4, 1), edge(1, 2), edge(5, 1)}
	p := fresh(t, api.Config{Replicas: 6, Room: 1, Edges: edges})
	linked := map[[2]int]bool{{0, 5}: true, {1, 4}: true, {1, 2}: true, {1, 5}: true}
	for r := range 6 {
		for q := range 6 {
			if !linked[[2]int{min(r, q), max(r, q)}] {
				p.sendFails(t, r, q, api.ErrEdge)
				continue
			}
			before := p.x.Flight()
			p.send(t, r, q)
			p.flight(t, before+1)
			p.frame(t, before, api.FDelta, r, q, 0)
		}
	}
}

// TestP12NoNeighbour: one alone has nobody to send to, and keeps what fits.
func TestP12NoNeighbour(t *testing.T) {
	for _, c := range settings(api.Config{Replicas: 1, Room: 2}) {
		p := fresh(t, c)
		p.update(t, 0, count(1))
		p.sendFails(t, 0, 0, api.ErrEdge)
		p.flight(t, 0)
		p.at(t, 0, true, 1, 0)
	}
	for _, c := range settings(api.Config{Replicas: 3, Room: 2, Edges: []api.Edge{edge(0, 1)}}) {
		p := fresh(t, c)
		for n := range 4 {
			p.update(t, 2, count(n+1))
			p.update(t, 0, grow("x"))
		}
		p.over(t, 0, 1)
		for q := range 3 {
			p.sendFails(t, 2, q, api.ErrEdge)
			p.sendFails(t, q, 2, api.ErrEdge)
		}
		p.at(t, 2, true, 4, 2)
		p.acked(t, 2, 0, 0, 0)
		p.sentOff(t, 2, 0, 0)
		p.state(t, 2, counted(2, 10))
	}
}

func TestP12Examples4And5(t *testing.T) {
	for _, c := range settings(line(false, false, 8)) {
		p := fresh(t, c)
		p.update(t, 0, count(3))
		p.send(t, 0, 1)
		p.frame(t, 0, api.FDelta, 0, 1, 1, counted(0, 3))
		p.deliver(t, 0)
		p.at(t, 1, true, 1, 0)
		p.buffer(t, 1, kept(1, 0, counted(0, 3)))
		p.frame(t, 0, api.FAck, 1, 0, 1)
		p.send(t, 1, 0)
		p.send(t, 1, 2)
		if c.BP {
			p.frame(t, 1, api.FDelta, 1, 0, 1)
			p.sentOff(t, 1, 2, 1)
		} else {
			p.frame(t, 1, api.FDelta, 1, 0, 1, counted(0, 3))
			p.sentOff(t, 1, 2, 2)
		}
		p.frame(t, 2, api.FDelta, 1, 2, 1, counted(0, 3))
		p.deliver(t, 0)
		p.acked(t, 0, 0, 1, 0)
		p.at(t, 0, true, 1, 1)
		p.buffer(t, 0)
	}
}

func TestP12Example6(t *testing.T) {
	for _, c := range settings(api.Config{Replicas: 2, Room: 1, Edges: []api.Edge{edge(0, 1)}}) {
		p := fresh(t, c)
		p.update(t, 0, grow("x"))
		p.send(t, 0, 1)
		p.frame(t, 0, api.FDelta, 0, 1, 1, grown("x"))
		p.update(t, 0, grow("y"))
		p.at(t, 0, true, 2, 1)
		p.send(t, 0, 1)
		p.frame(t, 1, api.FFull, 0, 1, 2, grown("x"), grown("y"))
		p.sentOff(t, 0, 2, 3)
	}
}

func TestP12Example7(t *testing.T) {
	for _, c := range settings(line(false, false, 8)) {
		p := fresh(t, c)
		p.crash(t, 0)
		p.start(t, 0)
		p.send(t, 0, 1)
		p.frame(t, 0, api.FDelta, 0, 1, 0) // the Number is 0
		p.update(t, 0, grow("x"))
		p.over(t, 0, 1)
		p.acked(t, 0, 0, 1, 0)
		p.update(t, 0, grow("y"))
		p.crash(t, 0)
		p.start(t, 0)
		p.acked(t, 0, 0, 0, 0)
		p.at(t, 0, true, 2, 2)
		p.buffer(t, 0)
		p.send(t, 0, 1)
		p.frame(t, 1, api.FFull, 0, 1, 2, grown("x"), grown("y"))
	}
}

// TestP12Example8: what is torn away is not sent either.
func TestP12Example8(t *testing.T) {
	p := fresh(t, line(true, true, 8))
	p.update(t, 0, count(3))
	p.torn(t, 0, count(2), 5)
	p.start(t, 0)
	p.send(t, 0, 1)
	p.frame(t, 0, api.FFull, 0, 1, 1, counted(0, 3))
	p.torn(t, 0, count(2), 99)
	p.start(t, 0)
	p.send(t, 0, 1)
	p.frame(t, 1, api.FFull, 0, 1, 2, counted(0, 5))
}

// TestP12AckedAndBase: Acked below, at and above Base, of one neighbour and of another.
func TestP12AckedAndBase(t *testing.T) {
	for _, c := range settings(line(false, false, 2)) {
		p := fresh(t, c)
		p.send(t, 1, 0)
		p.frame(t, 0, api.FDelta, 1, 0, 0) // both are 0
		p.drop(t, 0)
		for _, elem := range []string{"1", "2", "3"} {
			p.update(t, 1, grow(elem))
		}
		p.send(t, 1, 0)
		p.frame(t, 0, api.FFull, 1, 0, 3, grown("1"), grown("2"), grown("3")) // 0, below 1
		p.deliver(t, 0)
		p.deliver(t, 0)
		p.acked(t, 1, 3, 0, 0)
		p.at(t, 1, true, 3, 1)
		p.send(t, 1, 0)
		p.frame(t, 0, api.FDelta, 1, 0, 3) // 3, above 1: there is nothing new
		p.send(t, 1, 2)
		p.frame(t, 1, api.FFull, 1, 2, 3, grown("1"), grown("2"), grown("3"))
		p.update(t, 1, grow("4"))
		p.send(t, 1, 0)
		p.frame(t, 2, api.FDelta, 1, 0, 4, grown("4")) // 3, above 2: the entry 3 is left out
		p.update(t, 1, grow("5"))
		p.at(t, 1, true, 5, 3)
		p.send(t, 1, 0)
		p.frame(t, 3, api.FDelta, 1, 0, 5, grown("4"), grown("5")) // 3, at 3
		p.update(t, 1, grow("6"))
		p.send(t, 1, 0)
		p.frame(t, 4, api.FFull, 1, 0, 6, grown("1"), grown("2"), grown("3"), grown("4"), grown("5"), grown("6")) // 3, below 4
		p.sentOff(t, 1, 7, 3+3+1+2+6)
	}
}

// star is a middle, 0, with neighbours, each of which has sent it a letter of its own, behind one of the middle's.
func star(t *testing.T, c api.Config) pair {
	t.Helper()
	p := fresh(t, c)
	p.update(t, 0, grow("m"))
	for q := 1; q < c.Replicas; q++ {
		p.update(t, q, grow(string(rune('a'+q))))
		p.over(t, q, 0)
	}
	return p
}

func starOf(replicas, room int) api.Config {
	c := api.Config{Replicas: replicas, Room: room}
	for q := 1; q < replicas; q++ {
		c.Edges = append(c.Edges, edge(q, 0))
	}
	return c
}

// TestP12BP: what came from a neighbour does not go back to it, all else does; a whole state is whole.
func TestP12BP(t *testing.T) {
	whole := []api.Atom{grown("b"), grown("c"), grown("d"), grown("m")}
	for _, c := range settings(starOf(4, 8)) {
		p := star(t, c)
		for q := 1; q < 4; q++ {
			want := append([]api.Atom{}, whole...)
			if c.BP {
				want = append(want[:q-1], want[q:]...)
			}
			p.send(t, 0, q)
			p.frame(t, q-1, api.FDelta, 0, q, 4, want...)
		}
	}
	for _, c := range settings(starOf(4, 3)) {
		p := star(t, c)
		p.at(t, 0, true, 4, 1)
		for q := 1; q < 4; q++ {
			p.send(t, 0, q)
			p.frame(t, q-1, api.FFull, 0, q, 4, whole...)
		}
	}
}

// TestP12AllGoBack: of entries that all came from the neighbour a frame is made nevertheless, with no atom.
func TestP12AllGoBack(t *testing.T) {
	p := fresh(t, line(true, true, 8))
	for n := range 3 {
		p.update(t, 0, grow(strconv.Itoa(n)))
		p.over(t, 0, 1)
	}
	p.send(t, 1, 0)
	p.frame(t, 0, api.FDelta, 1, 0, 3)
	p.sentOff(t, 1, 1, 0)
	p.deliver(t, 0)
	p.frame(t, 0, api.FAck, 0, 1, 3)
	p.deliver(t, 0)
	p.acked(t, 1, 3, 0, 0)
	p.update(t, 1, count(1))
	p.send(t, 1, 0)
	p.frame(t, 0, api.FDelta, 1, 0, 4, counted(1, 1))
}

// TestP12Join: a frame is one state: of what was changed over again it has the last, once.
func TestP12Join(t *testing.T) {
	p := fresh(t, line(true, true, 8))
	for _, op := range []api.Op{
		count(3), count(4),
		{Type: api.Last, Key: "a", Elem: "old"}, {Type: api.Last, Key: "a", Elem: "new"},
		{Type: api.Two, Key: "a", Elem: "x"}, {Type: api.Two, Key: "a", Elem: "x", Side: 1},
		grow("x"), grow("x"),
	} {
		p.update(t, 0, op)
	}
	p.send(t, 0, 1)
	p.frame(t, 0, api.FDelta, 0, 1, 8,
		counted(0, 7),
		grown("x"),
		api.Atom{Type: api.Two, Key: "a", Elem: "x"}, api.Atom{Type: api.Two, Key: "a", Side: 1, Elem: "x"},
		api.Atom{Type: api.Last, Key: "a", N: 2, Elem: "new"},
	)
	p.sentOff(t, 0, 1, 5)
}

// TestP12Counts: what Send sends is counted, whatever becomes of it, and through crashes; nothing else is.
func TestP12Counts(t *testing.T) {
	p := fresh(t, line(false, true, 8))
	p.update(t, 0, grow("x"))
	p.update(t, 0, grow("y"))
	p.send(t, 0, 1)
	p.sentOff(t, 0, 1, 2)
	p.copied(t, 0)
	p.copied(t, 0)
	p.sentOff(t, 0, 1, 2)
	p.drop(t, 0)
	p.deliver(t, 0)
	p.sentOff(t, 1, 0, 0) // an FAck does not count
	p.deliver(t, 1)
	p.send(t, 0, 1)
	p.sentOff(t, 0, 2, 2) // no atom
	p.crash(t, 0)
	p.sentOff(t, 0, 2, 2)
	p.start(t, 0)
	p.crash(t, 1)
	p.send(t, 0, 1) // to one that is down
	p.sentOff(t, 0, 3, 4)
	p.torn(t, 0, grow("z"), 99)
	p.sentOff(t, 0, 3, 4)
	p.start(t, 0)
	p.compact(t, 0)
	p.send(t, 0, 1)
	p.sentOff(t, 0, 4, 7)
	p.sentOff(t, 1, 0, 0)
	p.sentOff(t, 2, 0, 0)
}
