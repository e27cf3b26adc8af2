package commit_test

import (
	"bytes"
	"encoding/binary"
	"math"
	"slices"

	"sporran/api"
)

// number is a number as bytes.
func number(v uint64) []byte { return binary.AppendUvarint(nil, v) }

// told is how many there are, and rows of bytes behind it.
func told(count uint64, rows ...[]byte) []byte {
	return append(number(count), slices.Concat(rows...)...)
}

// text is an event as bytes.
func text(b []byte) []byte { return told(uint64(len(b)), b) }

// rawRef is a Ref as bytes, whatever its numbers are.
func rawRef(digest api.Digest, at, length uint64) []byte {
	return slices.Concat(digest[:], number(at), number(length))
}

// rawBin is a bin as bytes, whatever its numbers are.
func rawBin(which, at, count uint64, root api.Digest) []byte {
	return slices.Concat(number(which), number(at), number(count), root[:])
}

// parts are a commit as bytes, cut where its fields end.
type parts struct {
	epoch                []byte
	prev, volumes, index []byte
	bins, state, events  []byte
}

func (p parts) joined() []byte {
	return slices.Concat(p.epoch, p.prev, p.volumes, p.index, p.bins, p.state, p.events)
}

// cut gives a commit's parts, whatever its numbers are: they are held to 64 bits by their type.
func cut(c api.Commit) parts {
	var bins, events [][]byte
	for _, b := range c.Bins {
		bins = append(bins, rawBin(uint64(b.Number), uint64(b.At), uint64(b.Count), b.Root))
	}
	for _, event := range c.Events {
		events = append(events, text(event))
	}
	ref := func(r api.Ref) []byte { return rawRef(r.Digest, uint64(r.At), uint64(r.Len)) }
	return parts{
		epoch: number(c.Epoch), prev: ref(c.Prev), volumes: ref(c.Volumes), index: ref(c.Index),
		bins: told(uint64(len(bins)), bins...), state: c.State[:], events: told(uint64(len(events)), events...),
	}
}

// good tells whether a commit may be, as to its numbers.
func good(c api.Commit) bool {
	right := c.Epoch != 0
	for _, r := range []api.Ref{c.Prev, c.Volumes, c.Index} {
		right = right && 0 <= r.At && r.At <= 65535 && 0 <= r.Len && r.Len <= 65536
	}
	last := -1
	for _, b := range c.Bins {
		right = right && last < b.Number && b.Number <= math.MaxInt32 && 0 <= b.At && b.At <= 65535 && 0 <= b.Count && b.Count <= 65536
		last = b.Number
	}
	return right
}

// encoded is Encode told once more.
func encoded(c api.Commit) ([]byte, api.Errno) {
	if !good(c) {
		return nil, api.ErrArg
	}
	b := cut(c).joined()
	if len(b) > 65536 {
		return nil, api.ErrSpace
	}
	return b, api.OK
}

// reader takes things without care for their form.
type reader struct {
	rest  []byte
	wrong bool
}

// number takes one that is no greater than an int: those that are greater stand nowhere but in the epoch.
func (r *reader) number() int {
	v := r.epoch()
	r.wrong = r.wrong || v > math.MaxInt
	return int(v)
}

func (r *reader) epoch() uint64 {
	v, n := binary.Uvarint(r.rest)
	r.wrong = r.wrong || n <= 0
	r.rest = r.rest[max(n, 0):]
	return v
}

func (r *reader) bytes(n int) []byte {
	if r.wrong || n > len(r.rest) {
		r.wrong = true
		return nil
	}
	b := r.rest[:n]
	r.rest = r.rest[n:]
	return b
}

func (r *reader) digest() api.Digest {
	var d api.Digest
	copy(d[:], r.bytes(len(d)))
	return d
}

func (r *reader) ref() api.Ref { return api.Ref{Digest: r.digest(), At: r.number(), Len: r.number()} }

// decoded gives the commit that bytes tell, if they may be: they are held to be what encoded gives.
func decoded(b []byte) (api.Commit, bool) {
	r := &reader{rest: b}
	c := api.Commit{Epoch: r.epoch(), Prev: r.ref(), Volumes: r.ref(), Index: r.ref()}
	for count := r.number(); !r.wrong && len(c.Bins) < count; {
		c.Bins = append(c.Bins, api.Bin{Number: r.number(), At: r.number(), Count: r.number(), Root: r.digest()})
	}
	c.State = r.digest()
	for count := r.number(); !r.wrong && len(c.Events) < count; {
		c.Events = append(c.Events, r.bytes(r.number()))
	}
	if r.wrong {
		return api.Commit{}, false
	}
	again, err := encoded(c)
	return c, err == api.OK && bytes.Equal(again, b)
}

// same tells whether two commits are one.
func same(a, b api.Commit) bool {
	return a.Epoch == b.Epoch && a.Prev == b.Prev && a.Volumes == b.Volumes && a.Index == b.Index && a.State == b.State &&
		slices.Equal(a.Bins, b.Bins) && slices.EqualFunc(a.Events, b.Events, bytes.Equal)
}

// copied gives a commit that shares nothing with the first one.
func copied(c api.Commit) api.Commit {
	c.Bins = slices.Clone(c.Bins)
	c.Events = slices.Clone(c.Events)
	for i := range c.Events {
		c.Events[i] = bytes.Clone(c.Events[i])
	}
	return c
}
