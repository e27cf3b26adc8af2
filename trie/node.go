package trie

import (
	"math/bits"
	"sync"

	"sporran/api"
	"sporran/pack"
	"sporran/sha"
)

const (
	nibbleBits = 4
	fan        = 1 << nibbleBits // how many nibbles there are
	keyNibbles = 8 * api.DigestBytes / nibbleBits
)

// The numbers with which the bytes of nodes begin.
const (
	kindLeaf = iota
	kindBranch
)

// node is the node of the keys that have one beginning. It never changes, so that tries may have nodes in common.
type node struct {
	key      api.Digest  // a leaf's key; of a branch the first nibbles alone count, those below to
	from, to int         // where the nibbles that it tells begin and end: a leaf's rest, a branch's longest beginning
	value    []byte      // a leaf's
	nodes    *[fan]*node // a branch's, by the nibble that comes next; a leaf has none

	// The digest is kept when it was wanted first: behind a change those of the way to one key alone are new.
	once   sync.Once
	digest api.Digest
}

// leaf gives the leaf of a key whose rest begins at a nibble.
func leaf(key api.Digest, from int, value []byte) *node {
	return &node{key: key, from: from, to: keyNibbles, value: value}
}

// leafOf tells whether n is the leaf of a key.
func (n *node) leafOf(key api.Digest) bool { return n.nodes == nil && n.key == key }

// next gives the node behind n on the way to a key, or none.
func (n *node) next(key api.Digest) *node {
	if n.nodes == nil || common(n.key, key) < n.to {
		return nil
	}
	return n.nodes[nibble(key, n.to)]
}

// with gives what stands in the place of n, the last node on the way to a key, when the key has a value.
func (n *node) with(key api.Digest, value []byte) *node {
	if n.leafOf(key) {
		return leaf(key, n.from, value)
	}
	if end := common(n.key, key); end < n.to {
		n = n.above(end)
	}
	return n.put(nibble(key, n.to), leaf(key, n.to+1, value))
}

// above gives a branch in n's place whose longest beginning ends earlier, with n alone in it: one more node must be put.
func (n *node) above(end int) *node {
	var nodes [fan]*node
	nodes[nibble(n.key, end)] = n.begun(end + 1)
	return &node{key: n.key, from: n.from, to: end, nodes: &nodes}
}

// begun gives the node of the same keys whose beginning ends elsewhere.
func (n *node) begun(from int) *node {
	return &node{key: n.key, from: from, to: n.to, value: n.value, nodes: n.nodes}
}

// put gives what stands in a branch's place when another node, or none, stands in it for a nibble.
func (n *node) put(at byte, other *node) *node {
	nodes := *n.nodes
	nodes[at] = other
	if only := alone(&nodes); only != nil {
		return only.begun(n.from)
	}
	return &node{key: n.key, from: n.from, to: n.to, nodes: &nodes}
}

// alone gives the node beside which there is no other one, if it is so.
func alone(nodes *[fan]*node) *node {
	var only *node
	for _, n := range nodes {
		if n != nil && only != nil {
			return nil
		}
		if n != nil {
			only = n
		}
	}
	return only
}

// keys puts the node's keys, rising, behind others.
func (n *node) keys(out []api.Digest) []api.Digest {
	if n.nodes == nil {
		return append(out, n.key)
	}
	for _, below := range n.nodes {
		if below != nil {
			out = below.keys(out)
		}
	}
	return out
}

// sum gives the node's digest.
func (n *node) sum() api.Digest {
	n.once.Do(func() { n.digest = sha.Tagged(useNode, n.bytes()) })
	return n.digest
}

// bytes gives the node as bytes.
func (n *node) bytes() []byte {
	told := make([]byte, 0, keyNibbles)
	for at := n.from; at < n.to; at++ {
		told = append(told, nibble(n.key, at))
	}
	if n.nodes == nil {
		return pack.Bytes(pack.Bytes(pack.Number(nil, kindLeaf), told), n.value)
	}
	var there uint64
	var digests []byte
	for at, below := range n.nodes {
		if below != nil {
			there |= 1 << at
			digest := below.sum()
			digests = append(digests, digest[:]...)
		}
	}
	out := pack.Bytes(pack.Number(nil, kindBranch), told)
	return append(pack.Number(out, there), digests...)
}

// nibble gives the nibble of a key at a place.
func nibble(key api.Digest, at int) byte {
	if at%2 == 0 {
		return key[at/2] >> nibbleBits
	}
	return key[at/2] % fan
}

// common tells how many first nibbles two keys have in common.
func common(a, b api.Digest) int {
	for i := range a {
		if a[i] != b[i] {
			return 2*i + bits.LeadingZeros8(a[i]^b[i])/nibbleBits
		}
	}
	return keyNibbles
}
