package codec

import "ripple/api"

// reader: bytes that are not read yet.
type reader struct {
	rest string
}

// parse goes by the bytes there are, not by the number at their head, which may be far too great.
func parse(s string) []api.Atom {
	r := &reader{rest: s}
	r.take(countWidth)
	var list []api.Atom
	for r.rest != "" {
		list = append(list, r.atom())
	}
	return list
}

func (r *reader) atom() api.Atom {
	var a api.Atom
	a.Type = r.number(1)
	a.Key = r.text()
	a.Side = r.number(1)
	a.Who = r.number(1)
	a.Elem = r.text()
	a.N = r.number(gradeWidth)
	return a
}

func (r *reader) text() string { return r.take(r.number(1)) }

func (r *reader) number(width int) int {
	n := 0
	for _, b := range []byte(r.take(width)) {
		n = n<<8 | int(b)
	}
	return n
}

// take gives what there is, where less is left than is asked for.
func (r *reader) take(size int) string {
	size = min(size, len(r.rest))
	taken := r.rest[:size]
	r.rest = r.rest[size:]
	return taken
}
