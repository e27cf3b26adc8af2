package proof_test

import (
	"crypto/sha256"
	"encoding/binary"
	"encoding/hex"
	"math/bits"
	"strings"
	"testing"

	"sporran/api"
	"sporran/proof"
)

// bytesOf is chapter 1's bytes.
func bytesOf(out []byte, b string) []byte {
	return append(binary.AppendUvarint(out, uint64(len(b))), b...)
}

// tagged is chapter 2's digest of rows, for a use.
func tagged(use byte, rows ...string) api.Digest {
	b := []byte{use}
	for _, row := range rows {
		b = bytesOf(b, row)
	}
	return sha256.Sum256(b)
}

// sum is the digest of a node, as a text.
func sum(node string) string {
	digest := tagged(4, node)
	return string(digest[:])
}

// nibbles gives the numbers that hexadecimal digits tell, a byte each.
func nibbles(digits string) string {
	return strings.Map(func(c rune) rune { return rune(strings.IndexRune("0123456789abcdef", c)) }, digits)
}

// at gives the key of 64 hexadecimal digits.
func at(digits string) api.Digest {
	b, err := hex.DecodeString(digits)
	if err != nil {
		panic(err)
	}
	return api.Digest(b)
}

// leaf gives the bytes of a leaf, whose rest is told by hexadecimal digits.
func leaf(rest, value string) string {
	return string(bytesOf(bytesOf([]byte{0}, nibbles(rest)), value))
}

// branch gives the bytes of a branch, whose beginning is told by hexadecimal digits, as the nibbles that come next are, which rise.
func branch(beginning, next string, digests ...string) string {
	return branchOf(nibbles(beginning), next, digests...)
}

// branchOf is branch, but for the beginning: any bytes.
func branchOf(beginning, next string, digests ...string) string {
	var there uint64
	for _, n := range nibbles(next) {
		there |= 1 << n
	}
	b := bytesOf([]byte{1}, beginning)
	return string(binary.AppendUvarint(b, there)) + strings.Join(digests, "")
}

// shown is what nodes show; nothing, if they aren't ok.
type shown struct {
	value     string
	there, ok bool
}

// plain is Check told once more, by texts: a key is 64 hexadecimal digits. Whatever isn't so panics meanwhile.
func plain(root api.Digest, key string, nodes ...string) (s shown) {
	defer func() {
		if recover() != nil {
			s = shown{}
		}
	}()
	if len(nodes) == 0 {
		must(root == tagged(5))
		return shown{ok: true}
	}
	left, wanted := nibbles(key), string(root[:])
	for i, b := range nodes {
		must(sum(b) == wanted)
		kind, b := number(b)
		told, b := text(b)
		must(kind < 2 && strings.Trim(told, nibbles("0123456789abcdef")) == "")
		if kind == 0 {
			value, b := text(b)
			must(len(told) == len(left) && b == "" && i == len(nodes)-1)
			if told == left {
				s.value, s.there = value, true
			}
			break
		}
		there, b := number(b)
		must(len(told) < len(left) && there < 1<<16 && bits.OnesCount64(there) >= 2 && len(b) == 32*bits.OnesCount64(there))
		n := left[len(told)]
		if !strings.HasPrefix(left, told) || there&(1<<n) == 0 {
			must(i == len(nodes)-1)
			break
		}
		must(i < len(nodes)-1)
		ahead := bits.OnesCount64(there & (1<<n - 1))
		wanted = b[32*ahead : 32*ahead+32]
		left = left[len(told)+1:]
	}
	s.ok = true
	return s
}

func must(so bool) {
	if !so {
		panic("it isn't so")
	}
}

// number takes a number, whose one form it must be.
func number(b string) (v uint64, behind string) {
	v, n := binary.Uvarint([]byte(b))
	must(n > 0 && string(binary.AppendUvarint(nil, v)) == b[:n])
	return v, b[n:]
}

// text takes bytes.
func text(b string) (told, behind string) {
	n, b := number(b)
	must(n <= uint64(len(b)))
	return b[:n], b[n:]
}

// check is Check by texts; it asks that beside an error, or a false, there is no value.
func check(t *testing.T, root api.Digest, key string, nodes ...string) shown {
	t.Helper()
	var rows [][]byte
	for _, n := range nodes {
		rows = append(rows, []byte(n))
	}
	value, there, err := proof.Check(root, at(key), rows)
	if err != api.OK && (err != api.ErrForm || there) || !there && len(value) > 0 {
		t.Fatalf("%q: Check of %s: %v, %v, %v", nodes, key, value, there, err)
	}
	return shown{string(value), there, err == api.OK}
}

// shows asks what nodes show of a key, under the first one's digest.
func shows(t *testing.T, want shown, key string, nodes ...string) {
	t.Helper()
	root := tagged(4, nodes[0])
	if got := check(t, root, key, nodes...); got != want || plain(root, key, nodes...) != want {
		t.Errorf("%q: Check of %s: %v, not %v", nodes, key, got, want)
	}
}

// has, hasNot and wrong are the kinds of what is shown.
func has(t *testing.T, value, key string, nodes ...string) {
	t.Helper()
	shows(t, shown{value, true, true}, key, nodes...)
}

func hasNot(t *testing.T, key string, nodes ...string) {
	t.Helper()
	shows(t, shown{"", false, true}, key, nodes...)
}

func wrong(t *testing.T, key string, nodes ...string) {
	t.Helper()
	shows(t, shown{}, key, nodes...)
}
