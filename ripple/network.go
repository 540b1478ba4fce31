package ripple

import (
	"slices"

	"ripple/api"
)

// Send sends what is new to a neighbour (P12).
func (x *Cluster) Send(r int, q int) api.Errno {
	x.guard.Lock()
	defer x.guard.Unlock()
	p, err := x.sender(r, q)
	if err != api.OK {
		return err
	}
	kind, told := p.news(q, x.bp)
	p.frames++
	p.weight += len(told)
	x.launch(api.Frame{Kind: kind, From: r, To: q, Upto: p.number, State: told})
	return api.OK
}

// Deliver lets the k-th frame arrive (P13).
func (x *Cluster) Deliver(k int) api.Errno {
	x.guard.Lock()
	defer x.guard.Unlock()
	f, err := x.frame(k)
	if err != api.OK {
		return err
	}
	x.lose(k)
	x.arrive(f)
	return api.OK
}

// Drop loses the k-th frame (P13).
func (x *Cluster) Drop(k int) api.Errno {
	x.guard.Lock()
	defer x.guard.Unlock()
	_, err := x.frame(k)
	if err != api.OK {
		return err
	}
	x.lose(k)
	return api.OK
}

// Copy sends the k-th frame once more (P13).
func (x *Cluster) Copy(k int) api.Errno {
	x.guard.Lock()
	defer x.guard.Unlock()
	f, err := x.frame(k)
	if err != api.OK {
		return err
	}
	x.launch(f)
	return api.OK
}

// Flight tells how many frames are in flight (P13).
func (x *Cluster) Flight() int {
	x.guard.Lock()
	defer x.guard.Unlock()
	return len(x.flight)
}

// Frame tells the k-th frame (P13).
func (x *Cluster) Frame(k int) (api.Frame, api.Errno) {
	x.guard.Lock()
	defer x.guard.Unlock()
	f, err := x.frame(k)
	if err != api.OK {
		return api.Frame{}, err
	}
	f.State = slices.Clone(f.State)
	return f, api.OK
}

// sender gives the replica that is to send; or the errors of Send.
func (x *Cluster) sender(r, q int) (*replica, api.Errno) {
	for _, end := range []int{r, q} {
		if _, err := x.one(end); err != api.OK {
			return nil, err
		}
	}
	if !x.linked[r][q] {
		return nil, api.ErrEdge
	}
	return x.upOne(r)
}

// frame gives the k-th frame, whose State may be that of a copy and of an entry too, and so is never written into; ErrNone, if there is no such one.
func (x *Cluster) frame(k int) (api.Frame, api.Errno) {
	if k < 0 || k >= len(x.flight) {
		return api.Frame{}, api.ErrNone
	}
	return x.flight[k], api.OK
}

// launch puts a frame in flight behind the others; where too many are, it is lost (P13).
func (x *Cluster) launch(f api.Frame) {
	if len(x.flight) < api.MaxFlight {
		x.flight = append(x.flight, f)
	}
}

// lose takes the k-th frame, which there must be, out of flight.
func (x *Cluster) lose(k int) { x.flight = slices.Delete(x.flight, k, k+1) }

// arrive hands a frame to the replica that it was sent to (P13). What is new is in that one's log before the FAck is sent, so that no crash loses what was told to be there.
func (x *Cluster) arrive(f api.Frame) {
	p := &x.replicas[f.To]
	if !p.up {
		return
	}
	if f.Kind == api.FAck {
		p.learn(f.From, f.Upto, x.linked[f.To])
		return
	}
	if delta := p.unknown(f.State, x.rr); len(delta) > 0 {
		p.take(delta, f.From, x.room)
	}
	x.launch(api.Frame{Kind: api.FAck, From: f.To, To: f.From, Upto: f.Upto})
}
