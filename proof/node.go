package proof

import (
	"bytes"
	"math"

	"sporran/api"
	"sporran/pack"
)

const (
	nibbleBits = 4
	fan        = 1 << nibbleBits // how many nibbles there are
)

// The numbers with which the bytes of nodes begin.
const (
	kindLeaf = iota
	kindBranch
)

// node is what a node tells.
type node struct {
	told  []byte              // a leaf's rest, or a branch's longest beginning
	value []byte              // a leaf's
	below map[byte]api.Digest // a branch's digests, by the nibble that comes next; a leaf has none
}

// take gives the node that bytes are in a place where so many nibbles of a key are left, and tells whether they are one.
func take(b []byte, left int) (node, bool) {
	in := pack.From(b)
	kind := in.Number(kindBranch)
	n := node{told: in.Bytes(left)}
	fits := len(n.told) == left
	if kind == kindLeaf {
		n.value = in.Bytes(math.MaxInt)
	} else {
		n.below = digests(in)
		fits = len(n.told) < left && len(n.below) > 1
	}
	return n, fits && allNibbles(n.told) && in.Done() == api.OK
}

// digests takes a branch's digests, which stand there as their nibbles rise.
func digests(in *pack.In) map[byte]api.Digest {
	there := in.Number(1<<fan - 1)
	below := map[byte]api.Digest{}
	for nibble := range byte(fan) {
		if there>>nibble%2 == 1 {
			below[nibble] = in.Digest()
		}
	}
	return below
}

// allNibbles tells whether each byte is a nibble.
func allNibbles(told []byte) bool {
	for _, b := range told {
		if b >= fan {
			return false
		}
	}
	return true
}

// next gives the digest of the node that comes next on the way to a key of which so much is left, if the way goes on.
func (n node) next(left []byte) (api.Digest, bool) {
	if n.below == nil || !bytes.HasPrefix(left, n.told) {
		return api.Digest{}, false
	}
	digest, there := n.below[left[len(n.told)]]
	return digest, there
}

// shown tells what the last node on the way shows of a key of which so much is left: a leaf's value, if it is this key's.
func (n node) shown(left []byte) ([]byte, bool) {
	if n.below != nil || !bytes.Equal(n.told, left) {
		return nil, false
	}
	return n.value, true
}
