package ripple_test

import (
	"math"
	"slices"
	"testing"

	"ripple/api"
	"ripple/ripple"
)

func edge(a, b int) api.Edge { return api.Edge{A: a, B: b} }

func TestP9WrongSettings(t *testing.T) {
	for _, c := range []api.Config{
		{},
		{Replicas: 0, Room: 1},
		{Replicas: -1, Room: 1},
		{Replicas: api.MaxReplicas + 1, Room: 1},
		{Replicas: math.MaxInt, Room: 1},
		{Replicas: math.MinInt, Room: 1},
		{Replicas: 1, Room: 0},
		{Replicas: 1, Room: -1},
		{Replicas: 1, Room: api.MaxRoom + 1},
		{Replicas: 1, Room: math.MaxInt},
		{Replicas: 1, Room: math.MinInt},
		{Replicas: math.MaxInt, Room: 1, Edges: []api.Edge{edge(0, 1000)}},
	} {
		wrong(t, c)
	}
	for _, bad := range [][]api.Edge{
		{edge(0, 3)}, {edge(3, 0)}, {edge(-1, 0)}, {edge(0, -1)}, {edge(3, 4)}, {edge(-1, 3)},
		{edge(math.MaxInt, 0)}, {edge(1, math.MinInt)},
		{edge(0, 0)}, {edge(2, 2)}, {edge(3, 3)},
		{edge(0, 1), edge(0, 1)}, {edge(0, 1), edge(1, 0)}, {edge(2, 0), edge(0, 2)},
		{edge(0, 1), edge(1, 2), edge(2, 0), edge(2, 1)},
		{edge(0, 1), edge(1, 2), edge(2, 0), edge(0, 3)},
	} {
		wrong(t, api.Config{Replicas: 3, Room: 1, Edges: bad})
		wrong(t, api.Config{Replicas: 3, Room: api.MaxRoom, Edges: bad, BP: true, RR: true})
	}
	wrong(t, api.Config{Replicas: 1, Room: 1, Edges: []api.Edge{edge(0, 0)}})
	wrong(t, api.Config{Replicas: 1, Room: 1, Edges: make([]api.Edge, 100000)})
}

func wrong(t *testing.T, c api.Config) {
	t.Helper()
	if x, err := ripple.New(c); x != nil || err != api.ErrConfig {
		t.Errorf("P9: New(%+v) = %v, %d", c, x, err)
	}
}

// all gives every edge there can be between so many replicas.
func all(replicas int) []api.Edge {
	var edges []api.Edge
	for a := range replicas {
		for b := range a {
			edges = append(edges, edge(a, b))
		}
	}
	return edges
}

func TestP9RightSettings(t *testing.T) {
	for replicas := 1; replicas <= api.MaxReplicas; replicas++ {
		for room := 1; room <= api.MaxRoom; room++ {
			for _, edges := range [][]api.Edge{nil, {}, all(replicas)} {
				p := fresh(t, api.Config{Replicas: replicas, Room: room, Edges: edges, BP: room%2 == 0, RR: room%3 == 0})
				nothingInFlight(t, p.x)
				for r := range replicas {
					p.at(t, r, true, 0, 0)
					p.state(t, r)
					p.logSize(t, r, 0)
				}
				for _, r := range []int{-1, replicas, math.MaxInt, math.MinInt} {
					if err := p.x.Crash(r); err != api.ErrReplica {
						t.Errorf("P9: of %d replicas there is one of the number %d", replicas, r)
					}
				}
			}
		}
	}
}

// TestP9Room: at each room the first entry goes when there is one more than fits.
func TestP9Room(t *testing.T) {
	for room := 1; room <= api.MaxRoom; room++ {
		p := fresh(t, api.Config{Replicas: 2, Room: room})
		for n := 1; n <= 2*room+3; n++ {
			p.update(t, 1, count(n))
			p.at(t, 1, true, n, max(0, n-room))
			list, _ := p.x.Buffer(1)
			if len(list) != min(n, room) || list[0].Number != max(1, n-room+1) || list[len(list)-1].Number != n {
				t.Fatalf("P9: with room for %d, after %d updates: %v", room, n, list)
			}
		}
		p.at(t, 0, true, 0, 0)
	}
}

func TestP13NothingInFlight(t *testing.T) {
	p := fresh(t, api.Config{Replicas: 3, Room: 2, Edges: []api.Edge{edge(0, 1), edge(1, 2)}})
	p.update(t, 0, count(1))
	nothingInFlight(t, p.x)
	p.m.agree(t, p.x)
	p.crash(t, 1)
	p.torn(t, 0, count(1), 7)
	nothingInFlight(t, p.x)
	p.m.agree(t, p.x)
	p.start(t, 1)
	p.compact(t, 1)
	nothingInFlight(t, p.x)
	p.m.agree(t, p.x)
}

func nothingInFlight(t *testing.T, x *ripple.Cluster) {
	t.Helper()
	if n := x.Flight(); n != 0 {
		t.Errorf("P13: %d in flight", n)
	}
	for _, k := range []int{math.MinInt, -1, 0, 1, api.MaxFlight - 1, api.MaxFlight, math.MaxInt} {
		f, err := x.Frame(k)
		if err != api.ErrNone || f.Kind != 0 || f.From != 0 || f.To != 0 || f.Upto != 0 || f.State != nil {
			t.Errorf("P13: Frame(%d) = %+v, %d", k, f, err)
		}
		errs := []api.Errno{x.Deliver(k), x.Drop(k), x.Copy(k)}
		if !slices.Equal(errs, []api.Errno{api.ErrNone, api.ErrNone, api.ErrNone}) {
			t.Errorf("P13: Deliver, Drop, Copy of %d = %v", k, errs)
		}
	}
}
