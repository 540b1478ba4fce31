package lattice_test

import (
	"math/rand"
	"slices"

	"ripple/api"
)

func count(key string, who, n int) api.Atom {
	return api.Atom{Type: api.Count, Key: key, Who: who, N: n}
}

func net(key string, side, who, n int) api.Atom {
	return api.Atom{Type: api.Net, Key: key, Side: side, Who: who, N: n}
}

func grow(key, elem string) api.Atom { return api.Atom{Type: api.Grow, Key: key, Elem: elem} }

func two(key string, side int, elem string) api.Atom {
	return api.Atom{Type: api.Two, Key: key, Side: side, Elem: elem}
}

func last(key string, n, who int, elem string) api.Atom {
	return api.Atom{Type: api.Last, Key: key, N: n, Who: who, Elem: elem}
}

func list(atoms ...api.Atom) []api.Atom { return atoms }

// The model says the document's words over again, with lists alone, so that it shares no way of being wrong with the program.

func sameSlot(a, b api.Atom) bool {
	if a.Type != b.Type || a.Key != b.Key {
		return false
	}
	return a.Type == api.Last || a.Side == b.Side && a.Who == b.Who && a.Elem == b.Elem
}

func textBelow(a, b string) bool {
	for i := 0; i < len(a) && i < len(b); i++ {
		if a[i] != b[i] {
			return a[i] < b[i]
		}
	}
	return len(a) < len(b)
}

func gradeBelow(a, b api.Atom) bool {
	switch {
	case a.N != b.N:
		return a.N < b.N
	case a.Type != api.Last:
		return false
	case a.Who != b.Who:
		return a.Who < b.Who
	}
	return textBelow(a.Elem, b.Elem)
}

func toldBefore(a, b api.Atom) bool {
	switch {
	case a.Type != b.Type:
		return a.Type < b.Type
	case a.Key != b.Key:
		return textBelow(a.Key, b.Key)
	case a.Side != b.Side:
		return a.Side < b.Side
	case a.Who != b.Who:
		return a.Who < b.Who
	}
	return textBelow(a.Elem, b.Elem)
}

func modelState(lists ...[]api.Atom) []api.Atom {
	var told []api.Atom
	for _, a := range slices.Concat(lists...) {
		at := slices.IndexFunc(told, func(b api.Atom) bool { return sameSlot(a, b) })
		switch {
		case at < 0:
			told = append(told, a)
		case gradeBelow(told[at], a):
			told[at] = a
		}
	}
	for i := range told {
		for j := i; j > 0 && toldBefore(told[j], told[j-1]); j-- {
			told[j], told[j-1] = told[j-1], told[j]
		}
	}
	return told
}

func modelDelta(a, b []api.Atom) []api.Atom {
	other := modelState(b)
	var left []api.Atom
	for _, atom := range modelState(a) {
		at := slices.IndexFunc(other, func(c api.Atom) bool { return sameSlot(atom, c) })
		if at < 0 || gradeBelow(other[at], atom) {
			left = append(left, atom)
		}
	}
	return left
}

// draw gives a list whose atoms often share a slot, and are often alike.
func draw(r *rand.Rand, most int) []api.Atom {
	keys, texts := []string{"a", "ab", "b", "\x00", "\xff"}, []string{"", "x", "xy", "x\x00", "\xff", "12345678"}
	var atoms []api.Atom
	for range r.Intn(most + 1) {
		key, text, n := keys[r.Intn(len(keys))], texts[r.Intn(len(texts))], 1+r.Intn(3)
		side, who := r.Intn(2), r.Intn(api.MaxReplicas)
		atoms = append(atoms, []api.Atom{count(key, who, n), net(key, side, who, n), grow(key, text), two(key, side, text), last(key, n, who, text)}[r.Intn(5)])
	}
	return atoms
}
