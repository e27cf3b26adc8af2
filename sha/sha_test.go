package sha_test

import (
	"bytes"
	"crypto/sha256"
	"encoding/binary"
	"encoding/hex"
	"strings"
	"sync"
	"testing"

	"sporran/api"
	"sporran/sha"
)

// pattern gives n bytes that differ from place to place.
func pattern(n int) []byte {
	b := make([]byte, n)
	for i := range b {
		b[i] = byte(i*i + i>>3 + n)
	}
	return b
}

// P2.1: digests that are known.
func TestSumKnown(t *testing.T) {
	for text, want := range map[string]string{
		"":    "e3b0c44298fc1c149afbf4c8996fb92427ae41e4649b934ca495991b7852b855",
		"abc": "ba7816bf8f01cfea414140de5dae2223b00361a396177a9cb410ff61f20015ad",
		"abcdbcdecdefdefgefghfghighijhijkijkljklmklmnlmnomnopnopq": "248d6a61d20638b8e5c026930c3e6039a33ce45964ff2167f6ecedd419db06c1",
		strings.Repeat("a", 1000000):                               "cdc76e5c9914fb9281a1c7e284d73e67f1809a48a497200e046d39ccc7112cd0",
	} {
		if d := sha.Sum([]byte(text)); hex.EncodeToString(d[:]) != want {
			t.Errorf("%.60q: %x", text, d)
		}
	}
	if sha.Sum(nil) != sha.Sum([]byte{}) {
		t.Error("a nil list is another one")
	}
}

// P2.1: at all numbers of bytes modulo 64, with none, one and more whole chunks ahead.
func TestSumOfAllLengths(t *testing.T) {
	lengths := []int{1000, 4096, 65536, 1 << 20, 1<<21 + 55, 1<<21 + 56}
	for n := range 400 {
		lengths = append(lengths, n)
	}
	for _, n := range lengths {
		b := pattern(n)
		if sha.Sum(b) != api.Digest(sha256.Sum256(b)) {
			t.Errorf("%d bytes", n)
		}
		if !bytes.Equal(b, pattern(n)) {
			t.Errorf("%d bytes: they are changed", n)
		}
	}
}

// P2.1: each byte, and each row's length, counts in what is tagged.
func TestTagged(t *testing.T) {
	long := pattern(200)
	for _, c := range []struct {
		got  api.Digest
		want []byte
	}{
		{sha.Tagged(2), []byte{2}},
		{sha.Tagged(255), []byte{255}},
		{sha.Tagged(0, nil), []byte{0, 0}},
		{sha.Tagged(0, []byte{}, nil), []byte{0, 0, 0}},
		{sha.Tagged(3, []byte("a"), nil), []byte{3, 1, 'a', 0}},
		{sha.Tagged(1, []byte("ab"), []byte("c")), []byte("\x01\x02ab\x01c")},
		{sha.Tagged(1, []byte("a"), []byte("bc")), []byte("\x01\x01a\x02bc")},
		{sha.Tagged(7, long, []byte{9}), append(append([]byte{7, 200, 1}, long...), 1, 9)},
	} {
		if c.got != api.Digest(sha256.Sum256(c.want)) {
			t.Errorf("the tagged bytes %v", c.want)
		}
	}
	for _, n := range []int{127, 128, 16383, 16384, 70000} {
		b := pattern(n)
		want := append(binary.AppendUvarint([]byte{6}, uint64(n)), b...)
		if sha.Tagged(6, b) != api.Digest(sha256.Sum256(want)) {
			t.Errorf("a row of %d bytes", n)
		}
	}
}

// P2.1, rule 4: rows that are handed over as a list stay as they were.
func TestTaggedChangesNothing(t *testing.T) {
	memory := pattern(90)
	rows := [][]byte{memory[:30], memory[10:50], nil, memory[80:]}
	sha.Tagged(4, rows...)
	if !bytes.Equal(memory, pattern(90)) || len(rows) != 4 || len(rows[0]) != 30 || len(rows[1]) != 40 || rows[2] != nil {
		t.Error("rows are changed")
	}
}

// P1, P2: no call panics, and the same calls give the same answers, also beside others.
func TestSameCallsSameAnswers(t *testing.T) {
	const most = 200
	var sums, tags [most]api.Digest
	for n := range most {
		sums[n] = sha.Sum(pattern(n))
		tags[n] = sha.Tagged(byte(n), pattern(n), pattern(most-n))
	}
	var beside sync.WaitGroup
	for range 4 {
		beside.Go(func() {
			for n := most - 1; n >= 0; n-- {
				if sha.Sum(pattern(n)) != sums[n] || sha.Tagged(byte(n), pattern(n), pattern(most-n)) != tags[n] {
					t.Errorf("%d bytes: another answer", n)
				}
			}
		})
	}
	beside.Wait()
}
