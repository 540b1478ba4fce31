package ripple_test

import (
	"math/rand"
	"testing"

	"ripple/api"
)

// drawOp gives an operation that is right more often than not.
func drawOp(r *rand.Rand) api.Op {
	keys, texts := []string{"a", "b", "abcd", "\xff\x00"}, []string{"", "x", "xy", "12345678", "\x00"}
	op := api.Op{Type: 1 + r.Intn(5), Key: keys[r.Intn(len(keys))]}
	switch op.Type {
	case api.Count:
		op.N = 1 + r.Intn(1000)
	case api.Net:
		op.N = []int{-1, 1}[r.Intn(2)] * (1 + r.Intn(1000))
	case api.Two:
		op.Side = r.Intn(2)
		fallthrough
	default:
		op.Elem = texts[r.Intn(len(texts))]
	}
	switch r.Intn(20) {
	case 0:
		op.Type = r.Intn(8) - 1
	case 1:
		op.Key = []string{"", "abcde"}[r.Intn(2)]
	case 2:
		op.Side = r.Intn(4) - 1
	case 3:
		op.N = []int{-1001, -1, 0, 1, 1001}[r.Intn(5)]
	case 4:
		op.Elem = []string{"x", "123456789"}[r.Intn(2)]
	}
	return op
}

// TestDrawnCalls: whatever is called, what the cluster tells is what the model has.
func TestDrawnCalls(t *testing.T) {
	for seed := range int64(60) {
		r := rand.New(rand.NewSource(seed))
		c := api.Config{Replicas: 1 + r.Intn(6), Room: 1 + r.Intn(8)}
		c.Edges = all(c.Replicas)
		p := fresh(t, c)
		for range 150 {
			at := r.Intn(c.Replicas)
			if r.Intn(30) == 0 {
				at = []int{-1, c.Replicas}[r.Intn(2)]
			}
			switch r.Intn(14) {
			case 0:
				p.torn(t, at, drawOp(r), r.Intn(60)-3)
			case 1:
				p.crash(t, at)
			case 2, 3:
				p.start(t, at)
			case 4:
				p.compact(t, at)
			case 5:
				p.reads(t, at, r.Intn(7), []string{"a", "b", "abcd", "c"}[r.Intn(4)])
			default:
				p.update(t, at, drawOp(r))
			}
		}
	}
}

// TestP16NothingAnsweredOKIsLost: through crashes and torn updates a count goes on from what Update answered OK to, or with the torn one's own.
func TestP16NothingAnsweredOKIsLost(t *testing.T) {
	r := rand.New(rand.NewSource(16))
	for range 40 {
		p := fresh(t, api.Config{Replicas: 2, Room: 1 + r.Intn(8)})
		sum := 0
		for range 60 {
			n, keep := 1+r.Intn(1000), r.Intn(2*size)-5
			switch r.Intn(5) {
			case 0:
				p.torn(t, 0, count(n), keep)
				if keep >= size {
					sum += n
				}
				p.start(t, 0)
			case 1:
				p.crash(t, 0)
				p.start(t, 0)
			case 2:
				p.compact(t, 0)
			default:
				p.update(t, 0, count(n))
				sum += n
			}
			if v, err := p.x.Read(0, api.Count, "a"); v.N != sum || err != api.OK {
				t.Fatalf("P16: Read = %+v, %d, not %d", v, err, sum)
			}
		}
	}
}
