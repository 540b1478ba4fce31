package codec

import (
	"strings"

	"ripple/api"
	"ripple/wire"
)

// parse goes by the bytes there are, not by the number at their head, which may be far too great.
func parse(s string) []api.Atom {
	r := &wire.Reader{Rest: s}
	r.Take(countWidth)
	var list []api.Atom
	for r.Rest != "" {
		list = append(list, readAtom(r))
	}
	return list
}

func readAtom(r *wire.Reader) api.Atom {
	var a api.Atom
	a.Type = r.Number(1)
	a.Key = readText(r)
	a.Side = r.Number(1)
	a.Who = r.Number(1)
	a.Elem = readText(r)
	a.N = r.Number(gradeWidth)
	return a
}

// readText gives a text of its own: a piece of what is read would keep all of that from being forgotten.
func readText(r *wire.Reader) string { return strings.Clone(r.Take(r.Number(1))) }
