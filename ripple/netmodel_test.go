package ripple_test

import (
	"slices"
	"testing"

	"ripple/api"
	"ripple/lattice"
)

// The model's network: P12 and P13 over again, with lists alone.

func (m *model) isNeighbour(r, q int) bool {
	return slices.Contains(m.c.Edges, edge(r, q)) || slices.Contains(m.c.Edges, edge(q, r))
}

func (m *model) sent(f api.Frame) {
	if len(m.flight) < 200 {
		m.flight = append(m.flight, f)
	}
}

func (m *model) send(r, q int) api.Errno {
	switch {
	case r < 0 || r >= len(m.replicas) || q < 0 || q >= len(m.replicas):
		return api.ErrReplica
	case !m.isNeighbour(r, q):
		return api.ErrEdge
	case m.replicas[r].down:
		return api.ErrDown
	}
	p := &m.replicas[r]
	f := api.Frame{Kind: api.FFull, From: r, To: q, Upto: p.number, State: p.state}
	if p.acked[q] >= p.base {
		f.Kind, f.State = api.FDelta, nil
		for _, e := range p.buffer {
			if e.Number > p.acked[q] && !(m.c.BP && e.Origin == q) {
				f.State, _ = lattice.Join(f.State, e.State)
			}
		}
	}
	p.frames++
	p.weight += len(f.State)
	m.sent(f)
	return api.OK
}

// taken gives the k-th frame, and what is in flight without it.
func (m *model) taken(k int) (api.Frame, []api.Frame, api.Errno) {
	if k < 0 || k >= len(m.flight) {
		return api.Frame{}, nil, api.ErrNone
	}
	return m.flight[k], slices.Concat(m.flight[:k], m.flight[k+1:]), api.OK
}

func (m *model) drop(k int) api.Errno {
	_, left, err := m.taken(k)
	if err == api.OK {
		m.flight = left
	}
	return err
}

func (m *model) copied(k int) api.Errno {
	f, _, err := m.taken(k)
	if err == api.OK {
		m.sent(f)
	}
	return err
}

func (m *model) deliver(k int) api.Errno {
	f, left, err := m.taken(k)
	if err != api.OK {
		return err
	}
	m.flight = left
	p := &m.replicas[f.To]
	switch {
	case p.down:
	case f.Kind == api.FAck:
		m.acked(f)
	default:
		delta, _ := lattice.Delta(f.State, p.state)
		if len(delta) > 0 && m.c.RR {
			m.take(f.To, f.From, delta)
		} else if len(delta) > 0 {
			m.take(f.To, f.From, f.State)
		}
		m.sent(api.Frame{Kind: api.FAck, From: f.To, To: f.From, Upto: f.Upto})
	}
	return api.OK
}

func (m *model) acked(f api.Frame) {
	p := &m.replicas[f.To]
	if f.Upto > p.acked[f.From] {
		p.acked[f.From] = f.Upto
	}
	least := p.acked[f.From]
	for q := range m.replicas {
		if m.isNeighbour(f.To, q) && p.acked[q] < least {
			least = p.acked[q]
		}
	}
	var kept []api.Entry
	for _, e := range p.buffer {
		if e.Number > least {
			kept = append(kept, e)
		}
	}
	p.buffer = kept
	if least > p.base {
		p.base = least
	}
}

func sameFrame(f, g api.Frame) bool {
	return f.Kind == g.Kind && f.From == g.From && f.To == g.To && f.Upto == g.Upto && slices.Equal(f.State, g.State)
}

func (p pair) send(t *testing.T, r, q int) {
	t.Helper()
	p.check(t, "P12: Send", r, p.x.Send(r, q), p.m.send(r, q))
}

func (p pair) deliver(t *testing.T, k int) {
	t.Helper()
	p.checkFrame(t, "Deliver", k, p.x.Deliver(k), p.m.deliver(k))
}

func (p pair) drop(t *testing.T, k int) {
	t.Helper()
	p.checkFrame(t, "Drop", k, p.x.Drop(k), p.m.drop(k))
}

func (p pair) copied(t *testing.T, k int) {
	t.Helper()
	p.checkFrame(t, "Copy", k, p.x.Copy(k), p.m.copied(k))
}

func (p pair) checkFrame(t *testing.T, what string, k int, got, want api.Errno) {
	t.Helper()
	if got != want {
		t.Fatalf("P13: %s of frame %d = %d, not %d", what, k, got, want)
	}
	p.m.agree(t, p.x)
}

// over lets the frame that was sent last arrive, and then what is sent back.
func (p pair) over(t *testing.T, r, q int) {
	t.Helper()
	p.send(t, r, q)
	p.deliver(t, len(p.m.flight)-1)
	p.deliver(t, len(p.m.flight)-1)
}

// frame is for wants that a test writes out, beside the model's.
func (p pair) frame(t *testing.T, k, kind, from, to, upto int, atoms ...api.Atom) {
	t.Helper()
	f, err := p.x.Frame(k)
	if want := (api.Frame{Kind: kind, From: from, To: to, Upto: upto, State: atoms}); !sameFrame(f, want) || err != api.OK {
		t.Fatalf("P12: Frame(%d) = %+v, %d, not %+v", k, f, err, want)
	}
}

func (p pair) flight(t *testing.T, want int) {
	t.Helper()
	if n := p.x.Flight(); n != want {
		t.Fatalf("P13: %d in flight, not %d", n, want)
	}
}

func (p pair) acked(t *testing.T, r int, want ...int) {
	t.Helper()
	if at, err := p.x.Replica(r); !slices.Equal(at.Acked, want) || err != api.OK {
		t.Fatalf("P13: Acked of replica %d = %v, %d, not %v", r, at.Acked, err, want)
	}
}

func (p pair) sentOff(t *testing.T, r, frames, weight int) {
	t.Helper()
	if at, err := p.x.Replica(r); at.Frames != frames || at.Weight != weight || err != api.OK {
		t.Fatalf("P12: Replica(%d) = %+v, %d, not %d frames of %d", r, at, err, frames, weight)
	}
}

func (p pair) buffer(t *testing.T, r int, want ...api.Entry) {
	t.Helper()
	if list, err := p.x.Buffer(r); !slices.EqualFunc(list, want, sameEntry) || err != api.OK {
		t.Fatalf("P9: Buffer(%d) = %v, %d, not %v", r, list, err, want)
	}
}

func kept(number, origin int, atoms ...api.Atom) api.Entry {
	return api.Entry{Number: number, Origin: origin, State: atoms}
}

// line is 0 - 1 - 2.
func line(bp, rr bool, room int) api.Config {
	return api.Config{Replicas: 3, Edges: []api.Edge{edge(0, 1), edge(2, 1)}, BP: bp, RR: rr, Room: room}
}

// settings gives the same settings with BP and RR in all four ways: neither of them first, both last.
func settings(c api.Config) []api.Config {
	var list []api.Config
	for way := range 4 {
		c.BP, c.RR = way&1 != 0, way&2 != 0
		list = append(list, c)
	}
	return list
}
