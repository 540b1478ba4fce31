package ripple_test

import (
	"math/rand"
	"slices"
	"testing"

	"ripple/api"
	"ripple/lattice"
)

// alike: of what replicas know, two clusters have the same.
func alike(t *testing.T, p, q pair) {
	t.Helper()
	for r := range p.m.replicas {
		told, err := p.x.State(r)
		if other, otherErr := q.x.State(r); !slices.Equal(told, other) || err != otherErr {
			t.Fatalf("P16: the state of replica %d hangs on BP and RR: %v, %d or %v, %d", r, told, err, other, otherErr)
		}
		a, _ := p.x.Replica(r)
		b, _ := q.x.Replica(r)
		if a.Up != b.Up || a.Number != b.Number || a.Base != b.Base || !slices.Equal(a.Acked, b.Acked) || a.Frames != b.Frames {
			t.Fatalf("P16: what replica %d is at hangs on BP and RR: %+v or %+v", r, a, b)
		}
		for kind := api.Count; kind <= api.Last; kind++ {
			v, err := p.x.Read(r, kind, "a")
			w, otherErr := q.x.Read(r, kind, "a")
			if v.N != w.N || !slices.Equal(v.Elems, w.Elems) || err != otherErr {
				t.Fatalf("P16: Read of %d hangs on BP and RR: %+v, %d or %+v, %d", r, v, err, w, otherErr)
			}
		}
	}
}

// noneAbove: the frames in flight of the first cluster are those of the second one, with no atom that would be news to them.
func noneAbove(t *testing.T, with, without pair) {
	t.Helper()
	if with.x.Flight() != without.x.Flight() {
		t.Fatalf("P16: %d in flight or %d", with.x.Flight(), without.x.Flight())
	}
	for k := range with.x.Flight() {
		f, _ := with.x.Frame(k)
		g, _ := without.x.Frame(k)
		if f.Kind != g.Kind || f.From != g.From || f.To != g.To || f.Upto != g.Upto {
			t.Fatalf("P16: frame %d is %+v with BP and RR, and %+v without", k, f, g)
		}
		if above, err := lattice.Delta(f.State, g.State); len(above) != 0 || err != api.OK {
			t.Fatalf("P16: frame %d has %v more with BP and RR", k, above)
		}
	}
}

// TestP16PlayedAlike: clusters that differ in BP and RR alone: what replicas know is the same all the way, and in flight is no more, with them.
func TestP16PlayedAlike(t *testing.T) {
	saved := 0
	for seed := range int64(30) {
		r := rand.New(rand.NewSource(1000 + seed))
		var ways []pair
		for _, c := range settings(drawConfig(r)) {
			ways = append(ways, fresh(t, c))
		}
		without, both := ways[0], ways[3]
		for range 150 {
			s := drawStep(r, len(without.m.replicas))
			for _, p := range ways {
				p.do(t, s)
				alike(t, p, without)
			}
			noneAbove(t, both, without)
		}
		for q := range without.m.replicas {
			a, _ := without.x.Replica(q)
			b, _ := both.x.Replica(q)
			if b.Weight > a.Weight {
				t.Errorf("P16: replica %d sent %d atoms with BP and RR, %d without", q, b.Weight, a.Weight)
			}
			saved += a.Weight - b.Weight
		}
	}
	if saved == 0 {
		t.Error("P12: BP and RR save nothing at all")
	}
}
