package record

import (
	"hash/adler32"
	"math/rand"
	"slices"
	"strings"
	"testing"

	"ripple/api"
	"ripple/codec"
	"ripple/wire"
)

func TestP15Sum(t *testing.T) {
	for text, want := range map[string]uint32{
		"":          1,
		"\x00":      0x00010001,
		"a":         0x00620062,
		"Wikipedia": 0x11e60398,
	} {
		if got := sum([]byte(text)); got != want {
			t.Errorf("P15: the sum of %q is %#x, not %#x", text, got, want)
		}
	}
	body, _ := codec.Encode([]api.Atom{{Type: api.Count, Key: "a", Who: 1, N: 5}})
	if a := sum([]byte(body)) & 0xffff; a != 107 {
		t.Errorf("P15: a of example 3 is %d", a)
	}
}

// TestP15SumOfManyBytes: a and b go round at 65521 many times; at each length, as they may go round at different ones.
func TestP15SumOfManyBytes(t *testing.T) {
	high := []byte(strings.Repeat("\xff", 1200))
	for size := range high {
		if got, want := sum(high[:size]), adler32.Checksum(high[:size]); got != want {
			t.Fatalf("P15: the sum of %d high bytes is %#x, not %#x", size, got, want)
		}
	}
	r := rand.New(rand.NewSource(15))
	for range 50 {
		bytes := make([]byte, r.Intn(100000))
		r.Read(bytes)
		if got, want := sum(bytes), adler32.Checksum(bytes); got != want {
			t.Fatalf("P15: the sum of %d bytes is %#x, not %#x", len(bytes), got, want)
		}
	}
	zeros := make([]byte, 200000) // b alone goes round
	if got, want := sum(zeros), adler32.Checksum(zeros); got != want {
		t.Errorf("P15: the sum of zeros is %#x, not %#x", got, want)
	}
}

var (
	one  = Record{Kind: Delta, Number: 1, State: []api.Atom{{Type: api.Count, Key: "a", Who: 1, N: 5}}}
	none = Record{Kind: Whole, Number: 0}
	many = Record{Kind: Whole, Number: 0x0102030405060708, State: []api.Atom{
		{Type: api.Net, Key: "abcd", Side: 1, Who: 5, N: api.MaxN},
		{Type: api.Two, Key: "\xff", Side: 1, Elem: "12345678"},
		{Type: api.Last, Key: "a", Who: 2, N: 7},
	}}
)

func TestP11Bytes(t *testing.T) {
	head := "\x01" + "\x00\x00\x00\x00\x00\x00\x00\x01" + "\x00\x00\x00\x00\x00\x00\x00\x12"
	body := "\x00\x00\x00\x00\x00\x00\x00\x01" + "\x01\x01a\x00\x01\x00\x00\x00\x00\x05"
	if got, want := string(one.Bytes()), summed(head+body); got != want {
		t.Errorf("P11: a record of a delta is %q, not %q", got, want)
	}
	head = "\x02" + "\x00\x00\x00\x00\x00\x00\x00\x00" + "\x00\x00\x00\x00\x00\x00\x00\x08"
	body = "\x00\x00\x00\x00\x00\x00\x00\x00"
	if got, want := string(none.Bytes()), summed(head+body); got != want {
		t.Errorf("P11: a record of an empty state is %q, not %q", got, want)
	}
	if got := string(many.Bytes()); got[:9] != "\x02\x01\x02\x03\x04\x05\x06\x07\x08" {
		t.Errorf("P11: the head of a record is %q", got[:9])
	}
}

// summed puts the check sum behind bytes.
func summed(s string) string {
	return string(wire.AppendNumber([]byte(s), int(adler32.Checksum([]byte(s))), 4))
}

func same(a, b Record) bool {
	return a.Kind == b.Kind && a.Number == b.Number && slices.Equal(a.State, b.State)
}

func TestP11FirstOfWholeRecords(t *testing.T) {
	for _, r := range []Record{one, none, many} {
		s := string(r.Bytes())
		for _, behind := range []string{"", "\x00", "x", s, s[:len(s)-1]} {
			if got, size := First(s + behind); !same(got, r) || size != len(s) {
				t.Errorf("P11: First of %+v and %q = %+v, %d", r, behind, got, size)
			}
		}
	}
}

// refused: a log that begins with no whole record.
func refused(t *testing.T, why, log string) {
	t.Helper()
	if got, size := First(log); size != 0 || !same(got, Record{}) || got.State != nil {
		t.Errorf("P11: %s: First(%q) = %+v, %d", why, log, got, size)
	}
}

func TestP11FirstOfWhatIsNotWhole(t *testing.T) {
	for _, r := range []Record{one, none, many} {
		s := string(r.Bytes())
		for size := range s {
			refused(t, "cut", s[:size])
			for _, change := range []byte{1, 3, 0x80, 0xff} {
				wrong := []byte(s)
				wrong[size] ^= change
				refused(t, "a byte changed", string(wrong))
				refused(t, "a byte changed, more behind", string(wrong)+s)
			}
		}
	}
}

// TestP11FirstWithRightSum: the sum is right, something else is wrong.
func TestP11FirstWithRightSum(t *testing.T) {
	head, eight := "\x01"+strings.Repeat("\x00", 7)+"\x01", strings.Repeat("\x00", 7)+"\x08"
	body := strings.Repeat("\x00", 8)
	if _, size := First(summed(head + eight + body)); size != 29 {
		t.Fatalf("P11: First of an empty delta: %d bytes", size)
	}
	for _, kind := range []string{"\x00", "\x03", "\xff"} {
		refused(t, "kind", summed(kind+head[1:]+eight+body))
	}
	for _, length := range []string{eight[:7] + "\x07", eight[:7] + "\x09", eight[:7] + "\x00", strings.Repeat("\xff", 8), "\x7f" + strings.Repeat("\xff", 7), "\x80" + eight[1:]} {
		refused(t, "length", summed(head+length+body))
	}
	refused(t, "no state", summed(head+eight+body[1:]+"\x01"))
	refused(t, "empty body", summed(head+body))
	twice := "\x03\x01a\x00\x00\x00\x00\x00\x00\x00"
	refused(t, "an atom twice", summed(head+eight[:7]+"\x1c"+body[1:]+"\x02"+twice+twice))
}
