package state

import "ripple/api"

// rule: the bounds of a type's atoms. What a type has no use for must be 0, or "": its greatest one is 0.
type rule struct {
	maxSide, maxWho, minN, maxN, maxElem int
	register                             bool // all that is written to a key goes for one slot
}

// rules: what each type asks of an atom, from Count to Last.
var rules = [api.Last]rule{
	{maxWho: api.MaxReplicas - 1, minN: 1, maxN: api.MaxN},
	{maxSide: 1, maxWho: api.MaxReplicas - 1, minN: 1, maxN: api.MaxN},
	{maxElem: api.MaxElem},
	{maxSide: 1, maxElem: api.MaxElem},
	{maxWho: api.MaxReplicas - 1, minN: 1, maxN: api.MaxN, maxElem: api.MaxElem, register: true},
}

// IsType tells whether a number is one of the types of values.
func IsType(kind int) bool { return within(kind, api.Count, api.Last) }

// AllMayBe tells whether each atom of a list is one that may be (P3).
func AllMayBe(list []api.Atom) bool {
	for _, a := range list {
		if !mayBe(a) {
			return false
		}
	}
	return true
}

func mayBe(a api.Atom) bool {
	if !IsType(a.Type) {
		return false
	}
	r := rules[a.Type-1]
	return within(len(a.Key), 1, api.MaxKey) &&
		within(a.Side, 0, r.maxSide) &&
		within(a.Who, 0, r.maxWho) &&
		within(a.N, r.minN, r.maxN) &&
		within(len(a.Elem), 0, r.maxElem)
}

func within(n, least, most int) bool { return least <= n && n <= most }

func isRegister(kind int) bool { return rules[kind-1].register }
