package lattice

import (
	"slices"

	"ripple/api"
	"ripple/state"
)

// Read tells the value of a type and key (P7).
func Read(a []api.Atom, kind int, key string) (api.Value, api.Errno) {
	m, err := state.Of(a)
	if err != api.OK {
		return api.Value{}, err
	}
	if !state.IsType(kind) {
		return api.Value{}, api.ErrOp
	}
	m.Narrow(kind, key)
	switch kind {
	case api.Count, api.Net:
		return api.Value{N: total(m)}, api.OK
	case api.Grow, api.Two:
		return api.Value{Elems: elems(m)}, api.OK
	}
	return register(m, key), api.OK
}

// total serves Count too, whose atoms are all of Side 0.
func total(m state.Map) int {
	sum := 0
	for slot, grade := range m {
		if slot.Side == 0 {
			sum += grade.N
		} else {
			sum -= grade.N
		}
	}
	return sum
}

// elems serves Grow too, of which nothing is ever removed.
func elems(m state.Map) []string {
	var list []string
	for slot := range m {
		if slot.Side == 0 && !isRemoved(m, slot) {
			list = append(list, slot.Elem)
		}
	}
	slices.Sort(list)
	return list
}

func isRemoved(m state.Map, added state.Slot) bool {
	added.Side = 1
	_, ok := m[added]
	return ok
}

func register(m state.Map, key string) api.Value {
	grade, ok := m[state.Slot{Type: api.Last, Key: key}]
	if !ok {
		return api.Value{}
	}
	return api.Value{N: grade.N, Elems: []string{grade.Elem}}
}
