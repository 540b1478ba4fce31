// Package state: states as maps, on which the other packages stand.
package state

import (
	"cmp"
	"slices"

	"ripple/api"
)

// Slot: of what a state has one at most (P3).
type Slot struct {
	Type      int
	Key       string
	Side, Who int
	Elem      string
}

// Grade: which of two in a slot counts (P3). Who and Elem are zero but of Last, so that one comparison serves all types.
type Grade struct {
	N, Who int
	Elem   string
}

// Map is a state. Its order must not be seen: Tell it.
type Map map[Slot]Grade

// Of gives the state that a list stands for; ErrAtom, if it has an atom that may not be.
func Of(list []api.Atom) (Map, api.Errno) {
	if !AllMayBe(list) {
		return nil, api.ErrAtom
	}
	m := Map{}
	m.Add(list)
	return m, api.OK
}

// Add joins the state with the one that a list stands for, whose atoms must be such as may be.
func (m Map) Add(list []api.Atom) {
	for _, a := range list {
		slot, grade := split(a)
		if held, ok := m[slot]; ok {
			grade = greater(held, grade)
		}
		m[slot] = grade
	}
}

// Thin takes out what would be nothing new to another state (P5).
func (m Map) Thin(other Map) {
	for slot, grade := range other {
		if held, ok := m[slot]; ok && compareGrades(held, grade) <= 0 {
			delete(m, slot)
		}
	}
}

// Narrow takes out all that is not of this type and key.
func (m Map) Narrow(kind int, key string) {
	for slot := range m {
		if slot.Type != kind || slot.Key != key {
			delete(m, slot)
		}
	}
}

// Tell gives the state's atoms, sorted (P3); nil, if there is none.
func (m Map) Tell() []api.Atom {
	var told []api.Atom
	for slot, grade := range m {
		told = append(told, unite(slot, grade))
	}
	slices.SortFunc(told, compareAtoms)
	return told
}

func split(a api.Atom) (Slot, Grade) {
	if isRegister(a.Type) {
		return Slot{Type: a.Type, Key: a.Key}, Grade{N: a.N, Who: a.Who, Elem: a.Elem}
	}
	return Slot{Type: a.Type, Key: a.Key, Side: a.Side, Who: a.Who, Elem: a.Elem}, Grade{N: a.N}
}

func unite(s Slot, g Grade) api.Atom {
	if isRegister(s.Type) {
		return api.Atom{Type: s.Type, Key: s.Key, Who: g.Who, Elem: g.Elem, N: g.N}
	}
	return api.Atom{Type: s.Type, Key: s.Key, Side: s.Side, Who: s.Who, Elem: s.Elem, N: g.N}
}

func greater(g, h Grade) Grade {
	if compareGrades(g, h) < 0 {
		return h
	}
	return g
}

func compareGrades(g, h Grade) int {
	return cmp.Or(
		cmp.Compare(g.N, h.N),
		cmp.Compare(g.Who, h.Who),
		cmp.Compare(g.Elem, h.Elem),
	)
}

func compareAtoms(a, b api.Atom) int {
	return cmp.Or(
		cmp.Compare(a.Type, b.Type),
		cmp.Compare(a.Key, b.Key),
		cmp.Compare(a.Side, b.Side),
		cmp.Compare(a.Who, b.Who),
		cmp.Compare(a.Elem, b.Elem),
	)
}
