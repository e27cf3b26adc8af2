package slots_test

import (
	"encoding/binary"
	"slices"

	"sporran/api"
)

// told is the sector that tells a Ref, whatever its numbers are: those below 0 modulo 2^64.
func told(r api.Ref) api.Sector {
	b := append([]byte{1}, r.Digest[:]...)
	b = binary.AppendUvarint(b, uint64(r.At))
	b = binary.AppendUvarint(b, uint64(r.Len))
	return laid(b)
}

// laid is a sector that begins with these bytes, the others 0.
func laid(rows ...[]byte) api.Sector {
	var s api.Sector
	copy(s[:], slices.Concat(rows...))
	return s
}

// good tells whether a Ref may be told.
func good(r api.Ref) bool {
	return 0 <= r.At && r.At <= 65535 && 0 <= r.Len && r.Len <= 65536
}

// readAs gives what a sector tells, told once more: taken without care for its form, and held against what tells that.
func readAs(s api.Sector) (api.Ref, bool) {
	r := api.Ref{Digest: api.Digest(s[1:33])}
	at, n := binary.Uvarint(s[33:])
	if n <= 0 {
		return api.Ref{}, false
	}
	length, m := binary.Uvarint(s[33+n:])
	if m <= 0 {
		return api.Ref{}, false
	}
	r.At, r.Len = int(at), int(length)
	if !good(r) || told(r) != s {
		return api.Ref{}, false
	}
	return r, true
}

// plain is a disk told once more: what is seen of its sectors.
type plain []api.Sector

func (p plain) write(epoch uint64, r api.Ref) api.Errno {
	slot := int(epoch & 1)
	if !good(r) {
		return api.ErrArg
	}
	if slot >= len(p) {
		return api.ErrRange
	}
	p[slot] = told(r)
	return api.OK
}

func (p plain) read(slot int) (api.Ref, bool) {
	if slot != 0 && slot != 1 || slot >= len(p) {
		return api.Ref{}, false
	}
	return readAs(p[slot])
}

func (p plain) find(digest api.Digest) (api.Ref, api.Errno) {
	zero, first := p.read(0)
	one, second := p.read(1)
	switch {
	case first && zero.Digest == digest:
		return zero, api.OK
	case second && one.Digest == digest:
		return one, api.OK
	}
	return api.Ref{}, api.ErrTampered
}
