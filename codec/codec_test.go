package codec_test

import (
	"math/rand"
	"slices"
	"strings"
	"testing"
	"unsafe"

	"ripple/api"
	"ripple/codec"
)

// head: the first seven of the eight bytes that tell how many atoms there are.
const head = "\x00\x00\x00\x00\x00\x00\x00"

func count(key string, who, n int) api.Atom {
	return api.Atom{Type: api.Count, Key: key, Who: who, N: n}
}

func net(key string, side, who, n int) api.Atom {
	return api.Atom{Type: api.Net, Key: key, Side: side, Who: who, N: n}
}

func grow(key, elem string) api.Atom { return api.Atom{Type: api.Grow, Key: key, Elem: elem} }

func two(key string, side int, elem string) api.Atom {
	return api.Atom{Type: api.Two, Key: key, Side: side, Elem: elem}
}

func last(key string, n, who int, elem string) api.Atom {
	return api.Atom{Type: api.Last, Key: key, N: n, Who: who, Elem: elem}
}

func list(atoms ...api.Atom) []api.Atom { return atoms }

func TestP8Bytes(t *testing.T) {
	for _, c := range []struct {
		told  []api.Atom
		bytes string
	}{
		{nil, head + "\x00"},
		{list(count("a", 1, 5)), head + "\x01" + "\x01\x01a\x00\x01\x00\x00\x00\x00\x05"}, // example 3
		{list(count("abcd", 5, api.MaxN)), head + "\x01" + "\x01\x04abcd\x00\x05\x00\x7f\xff\xff\xff"},
		{list(net("a", 1, 2, 0x01020304)), head + "\x01" + "\x02\x01a\x01\x02\x00\x01\x02\x03\x04"},
		{list(grow("\x00", "")), head + "\x01" + "\x03\x01\x00\x00\x00\x00\x00\x00\x00\x00"},
		{list(grow("a", "12345678")), head + "\x01" + "\x03\x01a\x00\x00\x0812345678\x00\x00\x00\x00"},
		{list(two("ab", 0, "x"), two("ab", 1, "x")), head + "\x02" + "\x04\x02ab\x00\x00\x01x\x00\x00\x00\x00" + "\x04\x02ab\x01\x00\x01x\x00\x00\x00\x00"},
		{list(last("\xff", 1, 0, "\xff\x00")), head + "\x01" + "\x05\x01\xff\x00\x00\x02\xff\x00\x00\x00\x00\x01"},
		{list(count("a", 0, 256), last("a", api.MaxN, 5, "12345678")), head + "\x02" + "\x01\x01a\x00\x00\x00\x00\x00\x01\x00" + "\x05\x01a\x00\x05\x0812345678\x7f\xff\xff\xff"},
	} {
		if s, err := codec.Encode(c.told); s != c.bytes || err != api.OK {
			t.Errorf("P8: Encode(%v) = %q, %d, want %q", c.told, s, err, c.bytes)
		}
		if told, err := codec.Decode(c.bytes); !slices.Equal(told, c.told) || err != api.OK {
			t.Errorf("P8: Decode(%q) = %v, %d, want %v", c.bytes, told, err, c.told)
		}
	}
}

// TestP8ManyAtoms: a number of atoms that needs more than one byte.
func TestP8ManyAtoms(t *testing.T) {
	var atoms []api.Atom
	for b := range 0x0203 {
		atoms = append(atoms, grow("a", string([]byte{byte(b >> 8), byte(b)})))
	}
	s, err := codec.Encode(atoms)
	if err != api.OK || !strings.HasPrefix(s, "\x00\x00\x00\x00\x00\x00\x02\x03\x03\x01a") || len(s) != 8+len(atoms)*12 {
		t.Fatalf("P8: Encode of %d atoms: %d bytes, %q.., %d", len(atoms), len(s), s[:min(len(s), 12)], err)
	}
	if told, err := codec.Decode(s); !slices.Equal(told, atoms) || err != api.OK {
		t.Errorf("P8: Decode of %d atoms: %d, %d", len(atoms), len(told), err)
	}
}

// TestP8EncodesTheState: lists that stand for one state have the same bytes.
func TestP8EncodesTheState(t *testing.T) {
	want, _ := codec.Encode(list(count("a", 1, 5), grow("a", "x"), last("a", 2, 1, "a")))
	for _, a := range [][]api.Atom{
		list(last("a", 2, 1, "a"), grow("a", "x"), count("a", 1, 5)),
		list(count("a", 1, 5), count("a", 1, 4), grow("a", "x"), count("a", 1, 5), last("a", 2, 1, "a")),
		list(grow("a", "x"), grow("a", "x"), last("a", 2, 0, "b"), last("a", 2, 1, "a"), last("a", 1, 5, "z"), last("a", 2, 1, ""), count("a", 1, 5)),
	} {
		if s, err := codec.Encode(a); s != want || err != api.OK {
			t.Errorf("P8: Encode(%v) = %q, %d, want %q", a, s, err, want)
		}
	}
}

func TestP8EncodeWrongAtoms(t *testing.T) {
	for _, w := range list(api.Atom{}, api.Atom{Type: 6, Key: "a"}, api.Atom{Type: -1 << 63, Key: "a"}, count("", 0, 1), count("abcde", 0, 1), count("a", 6, 1), count("a", -1, 1), count("a", 0, 0), count("a", 0, api.MaxN+1), count("a", 256, 257), net("a", 2, 0, 1), grow("a", "123456789"), two("a", -1, ""), last("a", 0, 0, "")) {
		for _, a := range [][]api.Atom{list(w), list(grow("a", "x"), w), list(w, grow("a", "x"))} {
			if s, err := codec.Encode(a); s != "" || err != api.ErrAtom {
				t.Errorf("P8: Encode(%v) = %q, %d", a, s, err)
			}
		}
	}
}

func TestP8DecodeWrongBytes(t *testing.T) {
	x, y := "\x03\x01a\x00\x00\x01x\x00\x00\x00\x00", "\x03\x01a\x00\x00\x01y\x00\x00\x00\x00"
	for name, s := range map[string]string{
		"no bytes":                "",
		"seven bytes":             head,
		"a byte behind none":      head + "\x00\x00",
		"an atom behind none":     head + "\x00" + x,
		"one atom, none there":    head + "\x01",
		"two atoms, one there":    head + "\x02" + x,
		"one atom, two there":     head + "\x01" + x + y,
		"a byte too many":         head + "\x01" + x + "\x00",
		"a byte too few":          head + "\x01" + x[:len(x)-1],
		"a great number":          "\x7f" + head,
		"the highest bit":         "\x80" + head,
		"the highest bit, and 1":  "\x80" + head[1:] + "\x01" + x,
		"all bits":                strings.Repeat("\xff", 8),
		"all bits, and an atom":   strings.Repeat("\xff", 8) + x,
		"a 33rd bit, and 1":       "\x00\x00\x00\x01\x00\x00\x00\x01" + x,
		"the lowest byte first":   "\x01" + head + x,
		"doubled":                 head + "\x02" + x + x,
		"unsorted by Elem":        head + "\x02" + y + x,
		"unsorted by a beginning": head + "\x02" + "\x03\x01a\x00\x00\x02xy\x00\x00\x00\x00" + x,
		"unsorted by Type":        head + "\x02" + x + "\x01\x01a\x00\x01\x00\x00\x00\x00\x05",
		"unsorted by Key":         head + "\x02" + "\x03\x01b\x00\x00\x01x\x00\x00\x00\x00" + x,
		"unsorted by Side":        head + "\x02" + "\x04\x01a\x01\x00\x01x\x00\x00\x00\x00" + "\x04\x01a\x00\x00\x01x\x00\x00\x00\x00",
		"unsorted by Who":         head + "\x02" + "\x01\x01a\x00\x01\x00\x00\x00\x00\x05" + "\x01\x01a\x00\x00\x00\x00\x00\x00\x05",
		"a slot twice, N rising":  head + "\x02" + "\x01\x01a\x00\x01\x00\x00\x00\x00\x05" + "\x01\x01a\x00\x01\x00\x00\x00\x00\x06",
		"a slot twice, N falling": head + "\x02" + "\x01\x01a\x00\x01\x00\x00\x00\x00\x06" + "\x01\x01a\x00\x01\x00\x00\x00\x00\x05",
		"Last twice, by Who":      head + "\x02" + "\x05\x01a\x00\x00\x00\x00\x00\x00\x01" + "\x05\x01a\x00\x01\x00\x00\x00\x00\x01",
		"Last twice, by Elem":     head + "\x02" + "\x05\x01a\x00\x00\x00\x00\x00\x00\x01" + "\x05\x01a\x00\x00\x01x\x00\x00\x00\x02",
		"Type 0":                  head + "\x01" + "\x00" + x[1:],
		"Type 6":                  head + "\x01" + "\x06" + x[1:],
		"Type 255":                head + "\x01" + "\xff" + x[1:],
		"no Key":                  head + "\x01" + "\x03\x00\x00\x00\x01x\x00\x00\x00\x00",
		"a long Key":              head + "\x01" + "\x03\x05abcde\x00\x00\x01x\x00\x00\x00\x00",
		"a Key beyond the end":    head + "\x01" + "\x03\xffa",
		"Side of Grow":            head + "\x01" + "\x03\x01a\x01\x00\x01x\x00\x00\x00\x00",
		"Side 2 of Two":           head + "\x01" + "\x04\x01a\x02\x00\x01x\x00\x00\x00\x00",
		"Who of Grow":             head + "\x01" + "\x03\x01a\x00\x01\x01x\x00\x00\x00\x00",
		"N of Grow":               head + "\x01" + "\x03\x01a\x00\x00\x01x\x00\x00\x00\x01",
		"Who 6":                   head + "\x01" + "\x01\x01a\x00\x06\x00\x00\x00\x00\x05",
		"Elem of Count":           head + "\x01" + "\x01\x01a\x00\x01\x01x\x00\x00\x00\x05",
		"a long Elem":             head + "\x01" + "\x03\x01a\x00\x00\x09123456789\x00\x00\x00\x00",
		"an Elem beyond the end":  head + "\x01" + "\x03\x01a\x00\x00\x08x\x00\x00\x00\x00",
		"N 0":                     head + "\x01" + "\x01\x01a\x00\x01\x00\x00\x00\x00\x00",
		"N above MaxN":            head + "\x01" + "\x01\x01a\x00\x01\x00\x80\x00\x00\x00",
		"N of all bits":           head + "\x01" + "\x05\x01a\x00\x01\x00\xff\xff\xff\xff",
	} {
		if told, err := codec.Decode(s); told != nil || err != api.ErrBytes {
			t.Errorf("P8: Decode of bytes that are wrong (%s) = %v, %d", name, told, err)
		}
	}
}

// draw gives atoms that may be, few enough kinds of them that slots meet.
func draw(r *rand.Rand) []api.Atom {
	var atoms []api.Atom
	for range r.Intn(12) {
		key, elem := []string{"a", "ab", "\xff"}[r.Intn(3)], []string{"", "x", "xy", "12345678"}[r.Intn(4)]
		side, who, n := r.Intn(2), r.Intn(api.MaxReplicas), []int{1, 2, 255, 256, api.MaxN}[r.Intn(5)]
		atoms = append(atoms, list(count(key, who, n), net(key, side, who, n), grow(key, elem), two(key, side, elem), last(key, n, who, elem))[r.Intn(5)])
	}
	return atoms
}

// TestP8ThereAndBack: of drawn states, and of their bytes changed a little: what Decode takes, Encode gives again.
func TestP8ThereAndBack(t *testing.T) {
	r := rand.New(rand.NewSource(1))
	for range 300 {
		a := draw(r)
		s, err := codec.Encode(a)
		if err != api.OK {
			t.Fatalf("P8: Encode(%v) = %q, %d", a, s, err)
		}
		told, err := codec.Decode(s)
		if again, _ := codec.Encode(told); err != api.OK || again != s {
			t.Fatalf("P8: Decode(%q) = %v, %d", s, told, err)
		}
		for _, atom := range a {
			if sum, _ := codec.Encode(append(slices.Clone(told), atom)); sum != s {
				t.Fatalf("P8: Decode(Encode(%v)) = %v: lacks %v", a, told, atom)
			}
		}
		for cut := range len(s) {
			if told, err := codec.Decode(s[:cut]); told != nil || err != api.ErrBytes {
				t.Fatalf("P8: Decode(%q), cut short = %v, %d", s[:cut], told, err)
			}
			changed := []byte(s)
			changed[cut] ^= 1 << r.Intn(8)
			told, err := codec.Decode(string(changed))
			if err == api.OK {
				if again, _ := codec.Encode(told); again != string(changed) {
					t.Fatalf("P8: Decode(%q) = %v, which Encode writes as %q", changed, told, again)
				}
			} else if told != nil || err != api.ErrBytes {
				t.Fatalf("P1: Decode(%q) = %v, %d", changed, told, err)
			}
		}
		if told, err := codec.Decode(s + "\x00"); told != nil || err != api.ErrBytes {
			t.Fatalf("P8: Decode(%q), a byte too long = %v, %d", s+"\x00", told, err)
		}
	}
}

func TestP1AnyBytes(t *testing.T) {
	r := rand.New(rand.NewSource(2))
	for range 20000 {
		b := make([]byte, r.Intn(40))
		for i := range b {
			b[i] = byte(r.Intn(256) >> r.Intn(9)) // small ones often, as those come further
		}
		if told, err := codec.Decode(string(b)); err != api.OK && (told != nil || err != api.ErrBytes) {
			t.Fatalf("P1: Decode(%q) = %v, %d", b, told, err)
		}
	}
	if told, err := codec.Decode(strings.Repeat("\x01", 1<<20)); told != nil || err != api.ErrBytes {
		t.Errorf("P1: Decode of a long text = %v, %d", told, err)
	}
}

func TestP2Memory(t *testing.T) {
	atoms := append(list(last("b", 1, 0, ""), count("a", 0, 3), count("a", 0, 2)), grow("mark", "mark"))
	want := slices.Clone(atoms)
	in := atoms[:3]
	s, _ := codec.Encode(in)
	first, _ := codec.Decode(s)
	second, _ := codec.Decode(s)
	if !slices.Equal(atoms, want) {
		t.Errorf("P2: Encode has written into what was handed in: %v", atoms)
	}
	for i := range first[:cap(first)] {
		first[:cap(first)][i] = api.Atom{Key: "scribble"}
	}
	third, _ := codec.Decode(s)
	told := list(count("a", 0, 3), last("b", 1, 0, ""))
	if !slices.Equal(second, told) || !slices.Equal(third, told) {
		t.Errorf("P2: answers of Decode share room: %v, %v", second, third)
	}
	in[1].N = 9
	if again, _ := codec.Encode(in); again == s || s != head+"\x02"+"\x01\x01a\x00\x00\x00\x00\x00\x00\x03"+"\x05\x01b\x00\x00\x00\x00\x00\x00\x01" {
		t.Errorf("P2: Encode keeps what was handed in: %q, %q", s, again)
	}
}

// TestP2DecodedTextsAreNew: a text that comes out is no piece of what was handed in.
func TestP2DecodedTextsAreNew(t *testing.T) {
	s, _ := codec.Encode([]api.Atom{{Type: api.Last, Key: "ab", N: 1, Elem: "xyz"}})
	told, err := codec.Decode(s)
	if err != api.OK || len(told) != 1 {
		t.Fatalf("P8: Decode = %v, %d", told, err)
	}
	for i := range s {
		if at := unsafe.StringData(s[i:]); at == unsafe.StringData(told[0].Key) || at == unsafe.StringData(told[0].Elem) {
			t.Errorf("P2: a text of %v is a piece of the bytes", told)
		}
	}
}
