// Package codec: states as bytes: see DOC.md.
package codec

import (
	"ripple/api"
	"ripple/state"
	"ripple/wire"
)

// The widths of numbers, in bytes.
const (
	countWidth = 8
	gradeWidth = 4
)

// Encode writes a state as bytes (P8).
func Encode(a []api.Atom) (string, api.Errno) {
	m, err := state.Of(a)
	if err != api.OK {
		return "", err
	}
	told := m.Tell()
	out := wire.AppendNumber(nil, len(told), countWidth)
	for _, atom := range told {
		out = appendAtom(out, atom)
	}
	return string(out), api.OK
}

// Decode reads a state out of bytes (P8). What the bytes seem to tell is written anew: just if that gives the same bytes they tell it, so that no way of being wrong need be looked for.
func Decode(s string) ([]api.Atom, api.Errno) {
	seeming := parse(s)
	again, err := Encode(seeming)
	if err != api.OK || again != s {
		return nil, api.ErrBytes
	}
	return seeming, api.OK
}

func appendAtom(out []byte, a api.Atom) []byte {
	out = wire.AppendNumber(out, a.Type, 1)
	out = appendText(out, a.Key)
	out = wire.AppendNumber(out, a.Side, 1)
	out = wire.AppendNumber(out, a.Who, 1)
	out = appendText(out, a.Elem)
	return wire.AppendNumber(out, a.N, gradeWidth)
}

func appendText(out []byte, text string) []byte {
	return append(wire.AppendNumber(out, len(text), 1), text...)
}
