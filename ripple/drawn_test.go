package ripple_test

import (
	"math/rand"
	"testing"

	"ripple/api"
)

// drawOp gives an operation that is right more often than not.
func drawOp(r *rand.Rand) api.Op {
	keys, texts := []string{"a", "b", "abcd", "\xff\x00"}, []string{"", "x", "xy", "12345678", "\x00"}
	op := api.Op{Type: 1 + r.Intn(5), Key: keys[r.Intn(len(keys))]}
	switch op.Type {
	case api.Count:
		op.N = 1 + r.Intn(1000)
	case api.Net:
		op.N = []int{-1, 1}[r.Intn(2)] * (1 + r.Intn(1000))
	case api.Two:
		op.Side = r.Intn(2)
		fallthrough
	default:
		op.Elem = texts[r.Intn(len(texts))]
	}
	switch r.Intn(20) {
	case 0:
		op.Type = r.Intn(8) - 1
	case 1:
		op.Key = []string{"", "abcde"}[r.Intn(2)]
	case 2:
		op.Side = r.Intn(4) - 1
	case 3:
		op.N = []int{-1001, -1, 0, 1, 1001}[r.Intn(5)]
	case 4:
		op.Elem = []string{"x", "123456789"}[r.Intn(2)]
	}
	return op
}

// drawConfig gives settings of which each pair of replicas is neighbours more often than not.
func drawConfig(r *rand.Rand) api.Config {
	c := api.Config{Replicas: 1 + r.Intn(6), Room: 1 + r.Intn(8), BP: r.Intn(2) == 0, RR: r.Intn(2) == 0}
	for _, e := range all(c.Replicas) {
		if r.Intn(3) > 0 {
			c.Edges = append(c.Edges, e)
		}
	}
	return c
}

// step is one call, drawn ahead of being made, so that it can be made alike of several clusters.
type step struct {
	what, r, q, k, keep int
	op                  api.Op
}

func drawStep(r *rand.Rand, replicas int) step {
	s := step{what: r.Intn(28), r: r.Intn(replicas), q: r.Intn(replicas), k: r.Intn(1 << 20), keep: r.Intn(60) - 3, op: drawOp(r)}
	if r.Intn(30) == 0 {
		s.r = []int{-1, replicas}[r.Intn(2)]
	}
	if r.Intn(30) == 0 {
		s.q = []int{-1, replicas}[r.Intn(2)]
	}
	return s
}

// at gives the number of a frame out of so many in flight; now and then of one that there is not.
func (s step) at(flight int) int { return s.k%(flight+2) - s.k/1000%2 }

func (p pair) do(t *testing.T, s step) {
	t.Helper()
	k := s.at(len(p.m.flight))
	switch s.what {
	case 0:
		p.torn(t, s.r, s.op, s.keep)
	case 1:
		p.crash(t, s.r)
	case 2, 3:
		p.start(t, s.r)
	case 4:
		p.compact(t, s.r)
	case 5:
		p.reads(t, s.r, s.k%7, []string{"a", "b", "abcd", "c"}[s.k/7%4])
	case 6:
		p.drop(t, k)
	case 7:
		p.copied(t, k)
	case 8, 9, 10, 11, 12, 13, 14:
		p.send(t, s.r, s.q)
	case 15, 16, 17, 18, 19, 20, 21:
		p.deliver(t, k)
	default:
		p.update(t, s.r, s.op)
	}
}

// TestDrawnCalls: whatever is called, what the cluster tells is what the model has.
func TestDrawnCalls(t *testing.T) {
	for seed := range int64(150) {
		r := rand.New(rand.NewSource(seed))
		c := drawConfig(r)
		p := fresh(t, c)
		for range 250 {
			p.do(t, drawStep(r, c.Replicas))
		}
	}
}

// TestP16NothingAnsweredOKIsLost: through crashes and torn updates a count goes on from what Update answered OK to, or with the torn one's own.
func TestP16NothingAnsweredOKIsLost(t *testing.T) {
	r := rand.New(rand.NewSource(16))
	for range 40 {
		p := fresh(t, api.Config{Replicas: 2, Room: 1 + r.Intn(8)})
		sum := 0
		for range 60 {
			n, keep := 1+r.Intn(1000), r.Intn(2*size)-5
			switch r.Intn(5) {
			case 0:
				p.torn(t, 0, count(n), keep)
				if keep >= size {
					sum += n
				}
				p.start(t, 0)
			case 1:
				p.crash(t, 0)
				p.start(t, 0)
			case 2:
				p.compact(t, 0)
			default:
				p.update(t, 0, count(n))
				sum += n
			}
			if v, err := p.x.Read(0, api.Count, "a"); v.N != sum || err != api.OK {
				t.Fatalf("P16: Read = %+v, %d, not %d", v, err, sum)
			}
		}
	}
}
