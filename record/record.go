// Package record: what a replica's log is made of (P11).
package record

import (
	"strings"

	"ripple/api"
	"ripple/codec"
	"ripple/wire"
)

// The kinds of records.
const (
	Delta = iota + 1
	Whole
)

// The widths of numbers, in bytes.
const (
	kindWidth   = 1
	numberWidth = 8
	lengthWidth = 8
	sumWidth    = 4
)

// Record: a delta, or a whole state, and the Number of the replica with it.
type Record struct {
	Kind, Number int
	State        []api.Atom
}

// Bytes writes a record, whose atoms must be such as may be.
func (r Record) Bytes() []byte {
	body, _ := codec.Encode(r.State)
	out := wire.AppendNumber(nil, r.Kind, kindWidth)
	out = wire.AppendNumber(out, r.Number, numberWidth)
	out = wire.AppendNumber(out, len(body), lengthWidth)
	out = append(out, body...)
	return wire.AppendNumber(out, int(sum(out)), sumWidth)
}

// First reads the record that a log begins with, and tells its length: 0, if the log begins with no whole one. As with codec.Decode, what it seems to be is written anew, and the log must have just that.
func First(log string) (Record, int) {
	r := wire.Reader{Rest: log}
	kind := r.Number(kindWidth)
	number := r.Number(numberWidth)
	told, err := codec.Decode(r.Take(r.Number(lengthWidth)))
	if err != api.OK || kind != Delta && kind != Whole {
		return Record{}, 0
	}
	seeming := Record{Kind: kind, Number: number, State: told}
	again := string(seeming.Bytes())
	if !strings.HasPrefix(log, again) {
		return Record{}, 0
	}
	return seeming, len(again)
}
