// Package pack is layer 1: things as bytes, one form for each.
package pack

import (
	"slices"

	"sporran/api"
)

// A number is told in groups of so many bits; each group but the last one has more added.
const (
	groupBits = 7
	more      = 1 << groupBits
	maxGroups = (64 + groupBits - 1) / groupBits
)

// Number puts a number behind out.
func Number(out []byte, v uint64) []byte {
	for ; v >= more; v >>= groupBits {
		out = append(out, byte(v)|more)
	}
	return append(out, byte(v))
}

// Bytes puts how many bytes b has, and b itself, behind out.
func Bytes(out, b []byte) []byte {
	count := Number(make([]byte, 0, maxGroups), uint64(len(b)))
	begin := len(out)
	out = slices.Grow(out, len(count)+len(b))[:begin+len(count)+len(b)]
	// b may stand in the room behind out: it must be moved before the count is laid over it.
	copy(out[begin+len(count):], b)
	copy(out[begin:], count)
	return out
}

// In takes things, one behind the other.
type In struct {
	rest  []byte
	wrong bool
}

// From gives an In that takes things from b.
func From(b []byte) *In {
	return &In{rest: slices.Clone(b)}
}

// Number takes a number that is at most so great.
func (in *In) Number(most uint64) uint64 {
	v, groups := leadingNumber(in.rest)
	if groups == 0 || v > most {
		in.fail()
		return 0
	}
	in.rest = in.rest[groups:]
	return v
}

// Bytes takes bytes that are at most so many.
func (in *In) Bytes(most int) []byte {
	if most < 0 {
		in.fail()
	}
	return in.cut(in.Number(uint64(most)))
}

// Digest takes a digest.
func (in *In) Digest() api.Digest {
	var d api.Digest
	copy(d[:], in.cut(api.DigestBytes))
	return d
}

// Wrong tells whether it has gone wrong.
func (in *In) Wrong() bool {
	return in.wrong
}

// Done answers ErrForm, if it has gone wrong, or something is left.
func (in *In) Done() api.Errno {
	if in.wrong || len(in.rest) > 0 {
		return api.ErrForm
	}
	return api.OK
}

// fail lets it be wrong for ever: with nothing left no thing is found behind it.
func (in *In) fail() {
	in.wrong = true
	in.rest = nil
}

// cut takes the next n bytes. Their room ends with them: who appends to them can't reach what is taken later.
func (in *In) cut(n uint64) []byte {
	if n > uint64(len(in.rest)) {
		in.fail()
		return nil
	}
	b := in.rest[:n:n]
	in.rest = in.rest[n:]
	return b
}

// leadingNumber gives the number with which b begins, and how many groups it has: 0, if there is none.
func leadingNumber(b []byte) (uint64, int) {
	var v uint64
	for i, group := range b {
		if i == maxGroups-1 && group > 1 { // of 64 bits one is left for the last group
			return 0, 0
		}
		v |= uint64(group&^more) << (groupBits * i)
		if group == 0 && i > 0 { // it could have been told without this group
			return 0, 0
		}
		if group < more {
			return v, i + 1
		}
	}
	return 0, 0
}
