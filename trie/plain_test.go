package trie_test

import (
	"bytes"
	"crypto/sha256"
	"encoding/binary"
	"encoding/hex"
	"maps"
	"slices"
	"strings"
	"testing"

	"sporran/api"
	"sporran/trie"
)

// plain is the trie told once more: values by keys; a key is written as 64 hexadecimal digits, one for each nibble. All is told anew each time.
type plain map[string]string

// bytesOf is chapter 1's bytes.
func bytesOf(out []byte, b string) []byte {
	return append(binary.AppendUvarint(out, uint64(len(b))), b...)
}

// tagged is chapter 2's digest of rows, for a use.
func tagged(use byte, rows ...string) api.Digest {
	b := []byte{use}
	for _, row := range rows {
		b = bytesOf(b, row)
	}
	return sha256.Sum256(b)
}

// nibbles gives the numbers that hexadecimal digits tell, a byte each.
func nibbles(digits string) string {
	return strings.Map(func(c rune) rune { return rune(strings.IndexRune("0123456789abcdef", c)) }, digits)
}

// sorted gives all keys, rising.
func (p plain) sorted() []string { return slices.Sorted(maps.Keys(p)) }

func (p plain) twin() plain { return maps.Clone(p) }

// node is a node told: its bytes, and how its keys begin; a branch's longest beginning is the end of that.
type node struct {
	bytes []byte
	start string
}

// nodes gives the nodes of a plain trie, by the beginnings of keys of which they are the nodes.
func (p plain) nodes() map[string]node {
	all := map[string]node{}
	if len(p) > 0 {
		p.tell(all, "", p.sorted())
	}
	return all
}

// tell tells the nodes of the keys that begin so, which rise; it gives their node's digest.
func (p plain) tell(all map[string]node, beginning string, keys []string) string {
	n := node{start: longest(keys)}
	if len(keys) == 1 {
		n.bytes = bytesOf(bytesOf([]byte{0}, nibbles(n.start[len(beginning):])), p[keys[0]])
	} else {
		var there uint64
		digests := ""
		for i, c := range "0123456789abcdef" {
			next := n.start + string(c)
			if below := beginSo(keys, next); len(below) > 0 {
				there |= 1 << i
				digests += p.tell(all, next, below)
			}
		}
		n.bytes = bytesOf([]byte{1}, nibbles(n.start[len(beginning):]))
		n.bytes = append(binary.AppendUvarint(n.bytes, there), digests...)
	}
	all[beginning] = n
	digest := tagged(4, string(n.bytes))
	return string(digest[:])
}

// longest gives the longest beginning that texts have in common. The first and the last one of rising texts tell it.
func longest(rising []string) string {
	first, last := rising[0], rising[len(rising)-1]
	n := 0
	for n < len(first) && first[n] == last[n] {
		n++
	}
	return first[:n]
}

func beginSo(keys []string, beginning string) []string {
	return slices.DeleteFunc(slices.Clone(keys), func(k string) bool { return !strings.HasPrefix(k, beginning) })
}

func (p plain) root() api.Digest {
	if len(p) == 0 {
		return tagged(5)
	}
	return tagged(4, string(p.nodes()[""].bytes))
}

// prove gives those of all nodes that are of a beginning of a key.
func prove(all map[string]node, key string) [][]byte {
	var out [][]byte
	for n := range len(key) + 1 {
		if at, there := all[key[:n]]; there {
			out = append(out, at.bytes)
		}
	}
	return out
}

// at gives the key of 64 hexadecimal digits.
func at(digits string) api.Digest {
	b, err := hex.DecodeString(digits)
	if err != nil {
		panic(err)
	}
	return api.Digest(b)
}

func digits(key api.Digest) string { return hex.EncodeToString(key[:]) }

// laid gives a trie with all that a plain one has.
func laid(p plain) *trie.Trie {
	t := trie.New()
	for key, value := range p {
		t.Put(at(key), []byte(value))
	}
	return t
}

// holds asks a trie for all that it tells, of its keys and of others.
func holds(t *testing.T, x *trie.Trie, p plain, others ...string) {
	t.Helper()
	var keys []string
	for _, key := range x.Keys() {
		keys = append(keys, digits(key))
	}
	if want := p.sorted(); !slices.Equal(keys, want) {
		t.Fatalf("keys %v, not %v", keys, want)
	}
	if got, want := x.Root(), p.root(); got != want {
		t.Fatalf("%v: root %x, not %x", p, got, want)
	}
	nodes := p.nodes()
	for _, key := range append(keys, others...) {
		want, there := p[key]
		if got, ok := x.Get(at(key)); ok != there || string(got) != want {
			t.Fatalf("Get of %s: %q, %v, not %q, %v", key, got, ok, want, there)
		}
		if got, want := x.Prove(at(key)), prove(nodes, key); !slices.EqualFunc(got, want, bytes.Equal) {
			t.Fatalf("%v: Prove of %s: %v, not %v", p, key, got, want)
		}
	}
}
