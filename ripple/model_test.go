package ripple_test

import (
	"encoding/binary"
	"hash/adler32"
	"slices"
	"strings"
	"testing"

	"ripple/api"
	"ripple/codec"
	"ripple/lattice"
	"ripple/ripple"
)

// The model says the document's words over again. It never reads a log: it knows which records are whole.

type modelRecord struct {
	bytes  string
	number int
	atoms  []api.Atom
}

type modelReplica struct {
	down           bool
	number, base   int
	state          []api.Atom
	buffer         []api.Entry
	acked          []int
	records        []modelRecord
	torn           string // what stands behind the whole records
	frames, weight int
}

type model struct {
	c        api.Config
	replicas []modelReplica
	flight   []api.Frame
}

func newModel(c api.Config) *model {
	c.Edges = slices.Clone(c.Edges)
	m := &model{c: c, replicas: make([]modelReplica, c.Replicas)}
	for r := range m.replicas {
		m.replicas[r].acked = make([]int, c.Replicas)
	}
	return m
}

func recordOf(kind byte, number int, atoms []api.Atom) modelRecord {
	body, _ := codec.Encode(atoms)
	b := binary.BigEndian.AppendUint64([]byte{kind}, uint64(number))
	b = binary.BigEndian.AppendUint64(b, uint64(len(body)))
	b = append(b, body...)
	b = binary.BigEndian.AppendUint32(b, adler32.Checksum(b))
	return modelRecord{string(b), number, atoms}
}

// made is the atom of P10; its second answer the error, if there is one.
func (m *model) made(r int, op api.Op) (api.Atom, api.Errno) {
	if r < 0 || r >= len(m.replicas) {
		return api.Atom{}, api.ErrReplica
	}
	if m.replicas[r].down {
		return api.Atom{}, api.ErrDown
	}
	if len(op.Key) < 1 || len(op.Key) > 4 || len(op.Elem) > 8 {
		return api.Atom{}, api.ErrOp
	}
	a := api.Atom{Type: op.Type, Key: op.Key, Side: op.Side, Elem: op.Elem, N: op.N}
	wrong := op.Side != 0
	switch op.Type {
	case api.Count:
		wrong = wrong || op.N < 1 || op.N > 1000 || op.Elem != ""
		a.Who = r
	case api.Net:
		wrong = wrong || op.N < -1000 || op.N == 0 || op.N > 1000 || op.Elem != ""
		a.Who = r
		if op.N < 0 {
			a.Side, a.N = 1, -op.N
		}
	case api.Grow:
		wrong = wrong || op.N != 0
	case api.Two:
		wrong = op.Side != 0 && op.Side != 1 || op.N != 0
	case api.Last:
		wrong = wrong || op.N != 0
		a.Who, a.N = r, 1
	default:
		wrong = true
	}
	if wrong {
		return api.Atom{}, api.ErrOp
	}
	for _, b := range m.replicas[r].state {
		if a.Type == b.Type && a.Key == b.Key && (a.Type == api.Last || a.Side == b.Side && a.Who == b.Who && a.Elem == b.Elem) {
			a.N += b.N
		}
	}
	if a.N > 2147483647 {
		return api.Atom{}, api.ErrLarge
	}
	return a, api.OK
}

func (m *model) update(r int, op api.Op) api.Errno {
	a, err := m.made(r, op)
	if err != api.OK {
		return err
	}
	m.take(r, r, []api.Atom{a})
	return api.OK
}

func (m *model) take(r, origin int, delta []api.Atom) {
	p := &m.replicas[r]
	p.number++
	p.records = append(p.records, recordOf(1, p.number, delta))
	p.state, _ = lattice.Join(p.state, delta)
	p.buffer = append(p.buffer, api.Entry{Number: p.number, Origin: origin, State: delta})
	if len(p.buffer) > m.c.Room {
		p.base = p.buffer[0].Number
		p.buffer = p.buffer[1:]
	}
}

func (p *modelReplica) lose() {
	p.down, p.number, p.base, p.state, p.buffer = true, 0, 0, nil, nil
	p.acked = make([]int, len(p.acked))
}

func (m *model) torn(r int, op api.Op, keep int) api.Errno {
	a, err := m.made(r, op)
	if err != api.OK {
		return err
	}
	p := &m.replicas[r]
	whole := recordOf(1, p.number+1, []api.Atom{a})
	switch {
	case len(whole.bytes) <= keep:
		p.records = append(p.records, whole)
	case keep > 0:
		p.torn = whole.bytes[:keep]
	}
	p.lose()
	return api.OK
}

// downOr is the error of a replica that must be up.
func (m *model) downOr(r int) api.Errno {
	switch {
	case r < 0 || r >= len(m.replicas):
		return api.ErrReplica
	case m.replicas[r].down:
		return api.ErrDown
	}
	return api.OK
}

func (m *model) crash(r int) api.Errno {
	err := m.downOr(r)
	if err == api.OK {
		m.replicas[r].lose()
	}
	return err
}

func (m *model) start(r int) api.Errno {
	switch m.downOr(r) {
	case api.ErrReplica:
		return api.ErrReplica
	case api.OK:
		return api.ErrUp
	}
	p := &m.replicas[r]
	p.down, p.torn = false, ""
	for _, q := range p.records {
		p.state, _ = lattice.Join(p.state, q.atoms)
		p.number, p.base = q.number, q.number
	}
	return api.OK
}

func (m *model) compact(r int) api.Errno {
	err := m.downOr(r)
	if err == api.OK {
		p := &m.replicas[r]
		p.records = []modelRecord{recordOf(2, p.number, p.state)}
	}
	return err
}

func (p *modelReplica) log() string {
	var s strings.Builder
	for _, q := range p.records {
		s.WriteString(q.bytes)
	}
	return s.String() + p.torn
}

func sameEntry(a, b api.Entry) bool {
	return a.Number == b.Number && a.Origin == b.Origin && slices.Equal(a.State, b.State)
}

// agree: a cluster tells what the model has.
func (m *model) agree(t *testing.T, x *ripple.Cluster) {
	t.Helper()
	for r := range m.replicas {
		p := &m.replicas[r]
		want := m.downOr(r)
		if told, err := x.State(r); !slices.Equal(told, p.state) || err != want {
			t.Fatalf("P14: State(%d) = %v, %d, not %v, %d", r, told, err, p.state, want)
		}
		if list, err := x.Buffer(r); !slices.EqualFunc(list, p.buffer, sameEntry) || err != want {
			t.Fatalf("P14: Buffer(%d) = %v, %d, not %v, %d", r, list, err, p.buffer, want)
		}
		if log, err := x.Log(r); log != p.log() || err != api.OK {
			t.Fatalf("P11: Log(%d) = %q, %d, not %q", r, log, err, p.log())
		}
		at, err := x.Replica(r)
		if err != api.OK || at.Up == p.down || at.Number != p.number || at.Base != p.base {
			t.Fatalf("P14: Replica(%d) = %+v, %d, not down %v, %d, %d", r, at, err, p.down, p.number, p.base)
		}
		if !slices.Equal(at.Acked, p.acked) {
			t.Fatalf("P14: Replica(%d) knows %v of others, not %v", r, at.Acked, p.acked)
		}
		if at.Frames != p.frames || at.Weight != p.weight {
			t.Fatalf("P12: Replica(%d) has sent %d frames of %d atoms, not %d of %d", r, at.Frames, at.Weight, p.frames, p.weight)
		}
	}
	if n := x.Flight(); n != len(m.flight) {
		t.Fatalf("P13: %d in flight, not %d", n, len(m.flight))
	}
	for k, want := range m.flight {
		if f, err := x.Frame(k); !sameFrame(f, want) || err != api.OK {
			t.Fatalf("P13: Frame(%d) = %+v, %d, not %+v", k, f, err, want)
		}
	}
}

// pair is a cluster and its model, to both of which the same is done.
type pair struct {
	x *ripple.Cluster
	m *model
}

func fresh(t *testing.T, c api.Config) pair {
	t.Helper()
	x, err := ripple.New(c)
	if x == nil || err != api.OK {
		t.Fatalf("P9: New(%+v) = %v, %d", c, x, err)
	}
	p := pair{x, newModel(c)}
	p.m.agree(t, x)
	return p
}

func (p pair) check(t *testing.T, what string, r int, got, want api.Errno) {
	t.Helper()
	if got != want {
		t.Fatalf("%s of replica %d = %d, not %d", what, r, got, want)
	}
	p.m.agree(t, p.x)
}

func (p pair) update(t *testing.T, r int, op api.Op) {
	t.Helper()
	p.check(t, "P10: Update", r, p.x.Update(r, op), p.m.update(r, op))
}

func (p pair) torn(t *testing.T, r int, op api.Op, keep int) {
	t.Helper()
	p.check(t, "P11: Torn", r, p.x.Torn(r, op, keep), p.m.torn(r, op, keep))
}

func (p pair) crash(t *testing.T, r int) {
	t.Helper()
	p.check(t, "P11: Crash", r, p.x.Crash(r), p.m.crash(r))
}

func (p pair) start(t *testing.T, r int) {
	t.Helper()
	p.check(t, "P11: Start", r, p.x.Start(r), p.m.start(r))
}

func (p pair) compact(t *testing.T, r int) {
	t.Helper()
	p.check(t, "P11: Compact", r, p.x.Compact(r), p.m.compact(r))
}

func count(n int) api.Op { return api.Op{Type: api.Count, Key: "a", N: n} }

func grow(elem string) api.Op { return api.Op{Type: api.Grow, Key: "a", Elem: elem} }

func counted(who, n int) api.Atom { return api.Atom{Type: api.Count, Key: "a", Who: who, N: n} }

func grown(elem string) api.Atom { return api.Atom{Type: api.Grow, Key: "a", Elem: elem} }

// state is for wants that a test writes out, beside the model's.
func (p pair) state(t *testing.T, r int, want ...api.Atom) {
	t.Helper()
	if told, err := p.x.State(r); !slices.Equal(told, want) || err != api.OK {
		t.Fatalf("P14: State(%d) = %v, %d, not %v", r, told, err, want)
	}
}

func (p pair) at(t *testing.T, r int, up bool, number, base int) {
	t.Helper()
	at, err := p.x.Replica(r)
	if err != api.OK || at.Up != up || at.Number != number || at.Base != base {
		t.Fatalf("P14: Replica(%d) = %+v, %d, not %v, %d, %d", r, at, err, up, number, base)
	}
}

func (p pair) logSize(t *testing.T, r, want int) {
	t.Helper()
	if log, err := p.x.Log(r); len(log) != want || err != api.OK {
		t.Fatalf("P11: Log(%d) has %d bytes, %d, not %d", r, len(log), err, want)
	}
}
