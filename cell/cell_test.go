package cell_test

import (
	"encoding/binary"
	"math"
	"testing"

	"sporran/api"
	"sporran/cell"
)

// root is a root whose bytes are all different, from v on.
func root(v byte) api.Digest {
	var d api.Digest
	for i := range d {
		d[i] = v + byte(i)
	}
	return d
}

func counters() []uint64 {
	return []uint64{0, 1, 255, 256, 65536, 0x0102030405060708, math.MaxInt64, 1 << 63, math.MaxUint64 - 1, math.MaxUint64}
}

func has(t *testing.T, c *cell.Cell, counter uint64, want api.Digest) {
	t.Helper()
	if n, r := c.Get(); n != counter || r != want {
		t.Errorf("Get: %d, %v, not %d, %v", n, r, counter, want)
	}
}

// P5.1: Get tells what New was handed.
func TestNewAndGet(t *testing.T) {
	has(t, cell.New(0, api.Digest{}), 0, api.Digest{})
	for i, n := range counters() {
		has(t, cell.New(n, root(byte(i))), n, root(byte(i)))
	}
}

// P5.1: Advance goes on by one, with the root.
func TestAdvance(t *testing.T) {
	c := cell.New(0, api.Digest{})
	for i := range 300 {
		if err := c.Advance(root(byte(i))); err != api.OK {
			t.Fatal(err)
		}
		has(t, c, uint64(i+1), root(byte(i)))
	}
	c = cell.New(math.MaxUint32, root(1))
	if err := c.Advance(root(1)); err != api.OK {
		t.Error(err)
	}
	has(t, c, 1<<32, root(1))
}

// P5.1: a counter that can't go on: ErrCounter, and nothing has changed.
func TestAdvanceAtTheEnd(t *testing.T) {
	c := cell.New(math.MaxUint64-1, root(1))
	if err := c.Advance(root(2)); err != api.OK {
		t.Error(err)
	}
	has(t, c, math.MaxUint64, root(2))
	for range 2 {
		if err := c.Advance(root(3)); err != api.ErrCounter {
			t.Errorf("Advance: %v", err)
		}
		has(t, c, math.MaxUint64, root(2))
	}
}

// P5.1: the bytes are the counter's, that of the greatest weight first, and the root's; Load takes them again.
func TestBytesAndLoad(t *testing.T) {
	for i, n := range counters() {
		c := cell.New(n, root(byte(i)))
		b := c.Bytes()
		var want [40]byte
		r := root(byte(i))
		copy(want[:], append(binary.BigEndian.AppendUint64(nil, n), r[:]...))
		if b != want {
			t.Errorf("Bytes of %d: %v, not %v", n, b, want)
		}
		has(t, cell.Load(b), n, r)
		has(t, c, n, r)
	}
	if b := cell.New(0x0102030405060708, api.Digest{9}).Bytes(); b != [40]byte{1, 2, 3, 4, 5, 6, 7, 8, 9} {
		t.Errorf("Bytes: %v", b)
	}
	if cell.New(0, api.Digest{}).Bytes() != [40]byte{} {
		t.Error("Bytes of nothing")
	}
}

// P5.1: a cell that was loaded goes on as any, and the one it came from stays.
func TestLoadedIsItsOwn(t *testing.T) {
	c := cell.New(7, root(1))
	b := c.Bytes()
	l := cell.Load(b)
	if err := l.Advance(root(2)); err != api.OK {
		t.Error(err)
	}
	has(t, l, 8, root(2))
	has(t, c, 7, root(1))
	if b != c.Bytes() {
		t.Error("the bytes have changed")
	}
	if err := cell.Load(cell.New(math.MaxUint64, root(1)).Bytes()).Advance(root(2)); err != api.ErrCounter {
		t.Errorf("Advance at the end: %v", err)
	}
}
