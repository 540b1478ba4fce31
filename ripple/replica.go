package ripple

import (
	"slices"

	"ripple/api"
	"ripple/record"
	"ripple/state"
)

// replica: of what it has just the log outlasts a crash; frames and weight, which are counted from New on, are none of its knowledge.
type replica struct {
	up             bool
	number, base   int
	state          state.Map
	buffer         []api.Entry
	acked          [api.MaxReplicas]int
	log            []byte
	frames, weight int
}

// take takes in a delta, told, that is kept from then on (P9).
func (p *replica) take(delta []api.Atom, origin, room int) {
	p.log = append(p.log, p.next(delta)...)
	p.number++
	p.state.Add(delta)
	p.buffer = append(p.buffer, api.Entry{Number: p.number, Origin: origin, State: delta})
	if len(p.buffer) > room {
		p.base = p.buffer[0].Number
		p.buffer = slices.Delete(p.buffer, 0, 1)
	}
}

// next gives the bytes of the record with which a delta would be taken in.
func (p *replica) next(delta []api.Atom) []byte {
	return record.Record{Kind: record.Delta, Number: p.number + 1, State: delta}.Bytes()
}

// tear writes so many bytes of a delta's record at most, and goes down with it (P11).
func (p *replica) tear(delta []api.Atom, keep int) {
	whole := p.next(delta)
	keep = max(0, min(keep, len(whole)))
	p.log = append(p.log, whole[:keep]...)
	p.fall()
}

// fall loses all but the log (P11).
func (p *replica) fall() {
	p.up = false
	p.number, p.base = 0, 0
	clear(p.state)
	p.buffer = nil
	p.acked = [api.MaxReplicas]int{}
}

// rise goes up with what the log has, and cuts off what is no whole record (P11).
func (p *replica) rise() {
	rest := string(p.log)
	for {
		r, size := record.First(rest)
		if size == 0 {
			break
		}
		p.state.Add(r.State)
		p.number, p.base = r.Number, r.Number
		rest = rest[size:]
	}
	p.log = p.log[:len(p.log)-len(rest)]
	p.up = true
}

// compact makes one record of the log (P11).
func (p *replica) compact() {
	p.log = record.Record{Kind: record.Whole, Number: p.number, State: p.state.Tell()}.Bytes()
}

// news gives the kind and the state, told, of a frame with what a neighbour may not have yet (P12).
func (p *replica) news(q int, bp bool) (int, []api.Atom) {
	if p.acked[q] < p.base {
		return api.FFull, p.state.Tell()
	}
	sum := state.Map{}
	for _, e := range p.buffer {
		goesBack := bp && e.Origin == q
		if e.Number > p.acked[q] && !goesBack {
			sum.Add(e.State)
		}
	}
	return api.FDelta, sum.Tell()
}

// unknown gives what is to be taken in of a state that arrives, told: with RR just what is new, without all of it; nil, if nothing is new (P13).
func (p *replica) unknown(arrived []api.Atom, rr bool) []api.Atom {
	fresh := state.Map{}
	fresh.Add(arrived)
	fresh.Thin(p.state)
	if rr || len(fresh) == 0 {
		return fresh.Tell()
	}
	return arrived
}

// learn notes up to which Number a neighbour has everything, and gives up what all neighbours have (P13).
func (p *replica) learn(from, upto int, neighbours [api.MaxReplicas]bool) {
	p.acked[from] = max(p.acked[from], upto)
	least := p.acked[from]
	for q, acked := range p.acked {
		if neighbours[q] {
			least = min(least, acked)
		}
	}
	p.buffer = slices.DeleteFunc(p.buffer, func(e api.Entry) bool { return e.Number <= least })
	p.base = max(p.base, least)
}

// entries gives a copy of the buffer, down to its lists.
func (p *replica) entries() []api.Entry {
	var list []api.Entry
	for _, e := range p.buffer {
		e.State = slices.Clone(e.State)
		list = append(list, e)
	}
	return list
}
