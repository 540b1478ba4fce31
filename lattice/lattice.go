// Package lattice: states that can be joined: see DOC.md.
package lattice

import (
	"ripple/api"
	"ripple/state"
)

// Join gives the state that is made of all atoms of two lists (P4).
func Join(a []api.Atom, b []api.Atom) ([]api.Atom, api.Errno) {
	m, err := state.Of(a)
	if err != api.OK || !state.AllMayBe(b) {
		return nil, api.ErrAtom
	}
	m.Add(b)
	return m.Tell(), api.OK
}

// Delta gives what a state needs to be joined with to have another one too (P5).
func Delta(a []api.Atom, b []api.Atom) ([]api.Atom, api.Errno) {
	m, err := state.Of(a)
	if err != api.OK {
		return nil, err
	}
	other, err := state.Of(b)
	if err != api.OK {
		return nil, err
	}
	m.Thin(other)
	return m.Tell(), api.OK
}
