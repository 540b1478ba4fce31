package ripple_test

import (
	"slices"
	"testing"
	"unsafe"

	"ripple/api"
	"ripple/ripple"
)

// scribble writes all over a list that came out, and its spare room.
func scribble[T any](list []T, mark T) {
	for i := range list[:cap(list)] {
		list[:cap(list)][i] = mark
	}
}

func TestP2Edges(t *testing.T) {
	whole := []api.Edge{edge(2, 1), edge(0, 1), edge(7, 7), edge(8, 8)}
	edges := slices.Clone(whole)[:2]
	p := fresh(t, api.Config{Replicas: 3, Room: 2, Edges: edges})
	if !slices.Equal(edges[:4], whole) {
		t.Errorf("P2: New makes %v of the edges", edges[:4])
	}
	scribble(edges, edge(-5, -5))
	p.update(t, 0, count(1))
	p.over(t, 0, 1)
	p.over(t, 1, 2)
	p.state(t, 2, counted(0, 1))
	scribble(edges, edge(0, 2))
	p.sendFails(t, 0, 2, api.ErrEdge)
	scribble(edges, edge(-5, -5))
	if x, err := ripple.New(api.Config{Replicas: 3, Room: 2, Edges: edges}); x != nil || err != api.ErrConfig {
		t.Errorf("P2: New = %v, %d, with edges that are wrong by now", x, err)
	}
}

// filled has two replicas with all types, the second one read from a log.
func filled(t *testing.T) pair {
	p := fresh(t, api.Config{Replicas: 2, Room: 3, Edges: []api.Edge{edge(0, 1)}})
	for r := range 2 {
		for _, op := range []api.Op{count(3), {Type: api.Two, Key: "a", Elem: "x"}, {Type: api.Last, Key: "a", Elem: "y"}, grow("q"), grow("p"), grow("r")} {
			p.update(t, r, op)
		}
	}
	p.compact(t, 1)
	p.crash(t, 1)
	p.start(t, 1)
	p.update(t, 1, grow("s"))
	p.update(t, 1, count(2))
	return p
}

// TestP2Answers: writing into an answer is nothing to the cluster, nor to another answer.
func TestP2Answers(t *testing.T) {
	p := filled(t)
	atom, entry := api.Atom{Type: -7, Key: "scribble"}, api.Entry{Number: -7}
	for r := range 2 {
		told, _ := p.x.State(r)
		list, _ := p.x.Buffer(r)
		at, _ := p.x.Replica(r)
		v, _ := p.x.Read(r, api.Grow, "a")
		w, _ := p.x.Read(r, api.Last, "a")
		for _, e := range list {
			scribble(e.State, atom)
			if !slices.Contains(e.State, atom) {
				t.Fatalf("the entry %v has nothing to write into", e)
			}
		}
		again, _ := p.x.State(r)
		scribble(told, atom)
		scribble(list, entry)
		scribble(at.Acked, -7)
		scribble(v.Elems, "scribble")
		scribble(w.Elems, "scribble")
		if !slices.Equal(again, p.m.replicas[r].state) {
			t.Errorf("P2: two answers of State share room: %v", again)
		}
		p.m.agree(t, p.x)
		p.reads(t, r, api.Grow, "a")
		p.reads(t, r, api.Last, "a")
	}
	p.update(t, 0, grow("t"))
	p.compact(t, 0)
	p.crash(t, 0)
	p.start(t, 0)
}

// TestP2ListsOfOneAnswer: the entries of one answer share no room, their spare room neither.
func TestP2ListsOfOneAnswer(t *testing.T) {
	p := filled(t)
	for r := range 2 {
		want := p.m.replicas[r].buffer
		for i := range want {
			list, _ := p.x.Buffer(r)
			scribble(list[i].State, api.Atom{Type: -7})
			for j := range want {
				if j != i && !sameEntry(list[j], want[j]) {
					t.Errorf("P2: entry %d changes with entry %d: %v", j, i, list[j])
				}
			}
		}
	}
}

// TestP2AnswersStay: what was told stays, whatever is done then.
func TestP2AnswersStay(t *testing.T) {
	p := filled(t)
	told, _ := p.x.State(0)
	list, _ := p.x.Buffer(0)
	at, _ := p.x.Replica(0)
	log, _ := p.x.Log(0)
	state, buffer, bytes := slices.Clone(told), slices.Clone(p.m.replicas[0].buffer), p.m.replicas[0].log()
	for n := range 20 {
		p.update(t, 0, count(n+1))
		p.update(t, 0, grow(string(rune('a'+n))))
	}
	p.compact(t, 0)
	p.torn(t, 0, count(1), 3)
	p.start(t, 0)
	p.update(t, 0, count(9))
	if !slices.Equal(told, state) || !slices.EqualFunc(list, buffer, sameEntry) || log != bytes || !slices.Equal(at.Acked, []int{0, 0}) {
		t.Errorf("P2: answers change: %v, %v, %v, %q", told, list, at, log)
	}
}

// TestP2TextsAreNotKept: of an operation's texts, which may be pieces of great ones, a copy is kept.
func TestP2TextsAreNotKept(t *testing.T) {
	p := fresh(t, api.Config{Replicas: 1, Room: 2})
	great := string(slices.Repeat([]byte("ab"), 4))
	op := api.Op{Type: api.Grow, Key: great[:2], Elem: great[2:5]}
	p.update(t, 0, op)
	told, _ := p.x.State(0)
	list, _ := p.x.Buffer(0)
	for _, a := range append(told, list[0].State...) {
		if unsafe.StringData(a.Key) == unsafe.StringData(op.Key) || unsafe.StringData(a.Elem) == unsafe.StringData(op.Elem) {
			t.Errorf("P2: a text that was handed in is kept: %v", a)
		}
	}
}

// flying has frames of all kinds in flight, copies with them, and an entry that was made of one of them.
func flying(t *testing.T, c api.Config) pair {
	t.Helper()
	p := fresh(t, c)
	for _, elem := range []string{"q", "p", "r"} {
		p.update(t, 0, grow(elem))
	}
	p.send(t, 0, 1)
	p.copied(t, 0)
	p.copied(t, 0)
	p.deliver(t, 0)
	p.crash(t, 0)
	p.start(t, 0)
	p.send(t, 0, 1)
	p.send(t, 1, 2)
	p.copied(t, 4)
	return p
}

// TestP2Frames: writing into a frame that was told is nothing to what is in flight, to its copies, or to the entries made of it.
func TestP2Frames(t *testing.T) {
	for _, c := range settings(line(false, false, 8)) {
		p := flying(t, c)
		atom := api.Atom{Type: -7, Key: "scribble"}
		for k, want := range p.m.flight {
			f, _ := p.x.Frame(k)
			again, _ := p.x.Frame(k)
			scribble(f.State, atom)
			if len(f.State) > 0 && !slices.Contains(f.State, atom) {
				t.Fatalf("the frame %v has nothing to write into", f)
			}
			if !sameFrame(again, want) {
				t.Errorf("P2: two answers of Frame share room: %v", again)
			}
			p.m.agree(t, p.x)
		}
		for r := range 3 {
			list, _ := p.x.Buffer(r)
			for _, e := range list {
				scribble(e.State, atom)
			}
			told, _ := p.x.State(r)
			scribble(told, atom)
			at, _ := p.x.Replica(r)
			scribble(at.Acked, -7)
			p.m.agree(t, p.x)
		}
		for p.x.Flight() > 0 {
			p.deliver(t, 0)
		}
		p.state(t, 2, grown("p"), grown("q"), grown("r"))
	}
}

// TestP2FramesStay: what was told of a frame stays, whatever becomes of it.
func TestP2FramesStay(t *testing.T) {
	p := flying(t, line(false, false, 2))
	var told []api.Frame
	for k := range p.m.flight {
		f, _ := p.x.Frame(k)
		told = append(told, f)
	}
	want := slices.Clone(p.m.flight)
	for n := range 5 {
		p.drop(t, 0)
		p.update(t, 0, grow(string(rune('a'+n))))
		p.over(t, 0, 1)
		p.over(t, 1, 2)
		p.send(t, 2, 1)
	}
	if !slices.EqualFunc(told, want, sameFrame) {
		t.Errorf("P2: answers change: %v, not %v", told, want)
	}
}

// TestP2NetworksKnowNothingOfOneAnother: what is sent in a cluster is in flight there alone.
func TestP2NetworksKnowNothingOfOneAnother(t *testing.T) {
	p, q := fresh(t, line(true, true, 2)), fresh(t, line(false, false, 2))
	p.update(t, 0, count(3))
	p.send(t, 0, 1)
	q.m.agree(t, q.x)
	q.noFrame(t, 0)
	q.send(t, 1, 2)
	q.drop(t, 0)
	p.m.agree(t, p.x)
	p.deliver(t, 0)
	p.deliver(t, 0)
	q.m.agree(t, q.x)
	q.state(t, 1)
}

func TestP2ClustersKnowNothingOfOneAnother(t *testing.T) {
	c := api.Config{Replicas: 2, Room: 2, Edges: []api.Edge{edge(0, 1)}}
	p, q := fresh(t, c), fresh(t, c)
	p.update(t, 0, count(3))
	q.m.agree(t, q.x)
	q.update(t, 0, grow("x"))
	q.crash(t, 0)
	p.m.agree(t, p.x)
	p.torn(t, 0, count(1), 5)
	q.start(t, 0)
	p.m.agree(t, p.x)
	q.m.agree(t, q.x)
}
