package state

import (
	"strings"

	"ripple/api"
)

// step: the bounds of a type's operations. What a type has no use for must be 0, or "".
type step struct {
	maxSide, minN, maxN, maxElem int
	moves                        bool // N must not be 0
}

// steps: what each type asks of an operation, from Count to Last.
var steps = [api.Last]step{
	{minN: 1, maxN: api.MaxStep},
	{minN: -api.MaxStep, maxN: api.MaxStep, moves: true},
	{maxElem: api.MaxElem},
	{maxSide: 1, maxElem: api.MaxElem},
	{maxElem: api.MaxElem},
}

// Change gives the atom that an operation makes, done by a replica that has this state (P10); ErrOp, if it is no operation; ErrLarge, if the atom would have an N above MaxN.
func (m Map) Change(who int, op api.Op) (api.Atom, api.Errno) {
	if !isOp(op) {
		return api.Atom{}, api.ErrOp
	}
	a := moved(who, op)
	slot, _ := split(a)
	a.N += m[slot].N
	if a.N > api.MaxN {
		return api.Atom{}, api.ErrLarge
	}
	return a, api.OK
}

func isOp(op api.Op) bool {
	if !IsType(op.Type) {
		return false
	}
	s := steps[op.Type-1]
	return within(len(op.Key), 1, api.MaxKey) &&
		within(op.Side, 0, s.maxSide) &&
		within(op.N, s.minN, s.maxN) &&
		!(s.moves && op.N == 0) &&
		within(len(op.Elem), 0, s.maxElem)
}

// moved gives the atom of an operation, with the N by which it goes beyond the one that is held. Its texts are copies: what is handed in is not kept.
func moved(who int, op api.Op) api.Atom {
	a := api.Atom{Type: op.Type, Key: strings.Clone(op.Key), Side: op.Side, Elem: strings.Clone(op.Elem)}
	switch op.Type {
	case api.Count:
		a.Who, a.N = who, op.N
	case api.Net:
		a.Who, a.N = who, max(op.N, -op.N)
		if op.N < 0 {
			a.Side = 1
		}
	case api.Last:
		a.Who, a.N = who, 1
	}
	return a
}
