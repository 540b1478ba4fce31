package ripple_test

import (
	"math/rand"
	"slices"
	"testing"

	"ripple/api"
	"ripple/lattice"
)

// The ways in which the FAcks of a round end.
const (
	ackArrives = iota
	ackDropped
	ackStays
)

// round lets each replica send to each neighbour, and the frame arrive.
func (p pair) round(t *testing.T, ack int) {
	t.Helper()
	for r := range p.m.replicas {
		for q := range p.m.replicas {
			if p.x.Send(r, q) != api.OK {
				continue
			}
			if err := p.x.Deliver(p.x.Flight() - 1); err != api.OK {
				t.Fatalf("P13: Deliver = %d", err)
			}
			last := p.x.Flight() - 1
			if f, _ := p.x.Frame(last); f.Kind != api.FAck || f.From != q || f.To != r {
				t.Fatalf("P13: %+v is sent back by %d to %d", f, q, r)
			}
			switch ack {
			case ackArrives:
				p.x.Deliver(last)
			case ackDropped:
				p.x.Drop(last)
			}
		}
	}
}

// settle takes all up and makes as many rounds as there are replicas.
func (p pair) settle(t *testing.T, ack int) {
	t.Helper()
	for p.x.Flight() > 0 {
		p.x.Drop(p.x.Flight() - 1)
	}
	for r := range p.m.replicas {
		p.x.Start(r)
	}
	for range p.m.replicas {
		p.round(t, ack)
	}
}

// groups gives for each replica the least one that it is connected with.
func (m *model) groups() []int {
	group := make([]int, len(m.replicas))
	for r := range group {
		group[r] = r
	}
	for range group {
		for _, e := range m.c.Edges {
			least := min(group[e.A], group[e.B])
			group[e.A], group[e.B] = least, least
		}
	}
	return group
}

// TestP16Rounds: behind any calls all that are connected come to have the same state, which has all that one of them had, and nothing of the others.
func TestP16Rounds(t *testing.T) {
	for seed := range int64(150) {
		r := rand.New(rand.NewSource(2000 + seed))
		p := fresh(t, drawConfig(r))
		for range 150 {
			p.do(t, drawStep(r, len(p.m.replicas)))
		}
		for q := range p.m.replicas {
			p.x.Start(q)
		}
		group := p.m.groups()
		want := make([][]api.Atom, len(group))
		for q, g := range group {
			told, _ := p.x.State(q)
			want[g], _ = lattice.Join(want[g], told)
		}
		p.settle(t, int(seed%3))
		for q, g := range group {
			p.state(t, q, want[g]...)
		}
	}
}

// TestP16LongestWay: from one end of a line to the other, sent against the way so that each round goes one step.
func TestP16LongestWay(t *testing.T) {
	for _, c := range settings(api.Config{Replicas: 6, Room: 1, Edges: []api.Edge{edge(0, 1), edge(1, 2), edge(2, 3), edge(3, 4), edge(4, 5)}}) {
		for ack := ackArrives; ack <= ackStays; ack++ {
			p := fresh(t, c)
			p.update(t, 5, count(7))
			p.update(t, 0, grow("x"))
			p.settle(t, ack)
			for r := range 6 {
				p.state(t, r, counted(5, 7), grown("x"))
			}
			p.x.Update(3, grow("y"))
			p.settle(t, ack)
			for r := range 6 {
				p.state(t, r, counted(5, 7), grown("x"), grown("y"))
			}
		}
	}
}

// known: what each replica must never lose: of what it answered OK to, and of what it sent an FAck for.
type known [][]api.Atom

func (n known) add(r int, atoms []api.Atom) { n[r], _ = lattice.Join(n[r], atoms) }

// before notes what a call is going to be answered for: the atom of an update, the state of a frame that arrives. One that is torn may leave its own atom, or not.
func (n known) before(p pair, s step) {
	if s.what >= 22 {
		if a, err := p.m.made(s.r, s.op); err == api.OK {
			n.add(s.r, []api.Atom{a})
		}
	}
	if s.what >= 15 && s.what <= 21 {
		f, err := p.x.Frame(s.at(len(p.m.flight)))
		if err == api.OK && f.Kind != api.FAck && !p.m.replicas[f.To].down {
			n.add(f.To, f.State)
		}
	}
}

func (n known) check(t *testing.T, p pair) {
	t.Helper()
	for r, atoms := range n {
		told, err := p.x.State(r)
		if err == api.ErrDown {
			continue
		}
		if lost, _ := lattice.Delta(atoms, told); len(lost) != 0 || err != api.OK {
			t.Fatalf("P16: replica %d has lost %v: State = %v, %d", r, lost, told, err)
		}
	}
}

// TestP16NothingSentIsLost: through crashes, torn updates and a bad network each replica has all that it said it has, and in the end all have it.
func TestP16NothingSentIsLost(t *testing.T) {
	for seed := range int64(100) {
		r := rand.New(rand.NewSource(3000 + seed))
		p := fresh(t, drawConfig(r))
		n := make(known, len(p.m.replicas))
		for range 150 {
			s := drawStep(r, len(n))
			n.before(p, s)
			p.do(t, s)
			n.check(t, p)
		}
		group := p.m.groups()
		p.settle(t, int(seed%3))
		n.check(t, p)
		for q, g := range group {
			n.add(g, n[q])
			told, _ := p.x.State(g)
			p.state(t, q, told...)
		}
		n.check(t, p)
	}
}

// TestP16AckedIsThere: of whom a replica knows that it has everything up to a Number has all that this one had at that Number, whatever crashed meanwhile.
func TestP16AckedIsThere(t *testing.T) {
	for seed := range int64(60) {
		r := rand.New(rand.NewSource(4000 + seed))
		p := fresh(t, drawConfig(r))
		replicas := len(p.m.replicas)
		had := make([]map[int][]api.Atom, replicas) // by Number
		for q := range had {
			had[q] = map[int][]api.Atom{}
		}
		for range 200 {
			p.do(t, drawStep(r, replicas))
			for from := range replicas {
				at, _ := p.x.Replica(from)
				if !at.Up {
					continue
				}
				told, _ := p.x.State(from)
				if old, ok := had[from][at.Number]; ok && !slices.Equal(old, told) {
					t.Fatalf("P9: replica %d has %v at the Number %d, and had %v", from, told, at.Number, old)
				}
				had[from][at.Number] = told
				for to, number := range at.Acked {
					there, err := p.x.State(to)
					if lost, _ := lattice.Delta(had[from][number], there); err == api.OK && len(lost) != 0 {
						t.Fatalf("P16: replica %d, which is said to have all up to %d of %d, has not %v", to, number, from, lost)
					}
				}
			}
		}
	}
}
