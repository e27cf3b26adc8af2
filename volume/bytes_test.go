package volume_test

import (
	"bytes"
	"math"
	"math/rand/v2"
	"slices"
	"strings"
	"testing"

	"sporran/api"
	"sporran/volume"
)

// right asks that Decode of bytes gives just these volumes, and that they are these bytes again.
func right(t *testing.T, b []byte, want []api.Volume) {
	t.Helper()
	s, err := volume.Decode(b)
	if err != api.OK || s == nil {
		t.Fatalf("%v: %v, %v", b, s, err)
	}
	if got := s.All(); !same(got, want) {
		t.Fatalf("%v: %v, not %v", b, got, want)
	}
	if !bytes.Equal(s.Encode(), b) {
		t.Fatalf("%v: other bytes: %v", b, s.Encode())
	}
}

// wrong asks for what Decode gives of bytes that aren't.
func wrong(t *testing.T, b []byte) {
	t.Helper()
	if s, err := volume.Decode(b); s != nil || err != api.ErrForm {
		t.Fatalf("%v: %v, %v", b, s, err)
	}
}

// agrees holds Decode of some bytes against the plain one.
func agrees(t *testing.T, b []byte) {
	t.Helper()
	if all, may := decoded(b); may {
		right(t, b, all)
	} else {
		wrong(t, b)
	}
}

// P12.4: how many volumes; of each its name, twice its quota, and 1 if it is frozen, how many blocks, and they.
func TestEncodeByHand(t *testing.T) {
	s := volume.New()
	s.Create("b", 2)
	low, high := at(31, 5), at(0, 200)
	s.Put("b", 300, low)
	s.Put("b", 127, high)
	want := slices.Concat([]byte{1, 1, 'b', 4, 2, 127}, high[:], []byte{172, 2}, low[:])
	if got := s.Encode(); !bytes.Equal(got, want) {
		t.Errorf("%v", got)
	}
	s.Copy("b", "a~", 64, true)
	s.Create("c", api.MaxBlocks)
	s.Drop("b", 127)
	want = slices.Concat([]byte{3, 2, 'a', '~', 129, 1, 2, 127}, high[:], []byte{172, 2}, low[:], []byte{1, 'b', 4, 1, 172, 2}, low[:], []byte{1, 'c', 128, 128, 128, 1, 0})
	if got := s.Encode(); !bytes.Equal(got, want) {
		t.Errorf("%v", got)
	}
	right(t, want, s.All())
}

// P12.4: a set is the same behind Encode and Decode, and goes on.
func TestDecode(t *testing.T) {
	p := some()
	s := laid(t, p)
	right(t, s.Encode(), p.all())
	right(t, []byte{0}, nil)
	other, _ := volume.Decode(s.Encode())
	holds(t, other, p, "missing")
	put(t, other, "a", 0, finger(70), finger(3), true, api.OK)
	p.put("a", 0, finger(70))
	put(t, other, "a", 1, finger(71), api.Digest{}, false, api.ErrQuota)
	drop(t, other, "a", 300, finger(2), true, api.OK)
	p.drop("a", 300)
	put(t, other, "snap", 0, finger(70), api.Digest{}, false, api.ErrFrozen)
	if err := other.Copy("snap", "new", 9, false); err != api.OK || p.copy("snap", "new", 9, false) != api.OK {
		t.Errorf("Copy: %v", err)
	}
	if err := other.Create("empty", 9); err != api.ErrThere {
		t.Errorf("Create: %v", err)
	}
	holds(t, other, p, "missing")
	none, _ := volume.Decode([]byte{0})
	if err := none.Create("a", 1); err != api.OK {
		t.Errorf("Create in a set of no volumes: %v", err)
	}
	put(t, none, "a", 0, finger(1), api.Digest{}, false, api.OK)
}

// P12.4: names that may be are taken, all others aren't.
func TestDecodeNames(t *testing.T) {
	for _, name := range names() {
		right(t, told(1, raw(name, 6)), []api.Volume{{Name: name, Quota: 3}})
	}
	for _, name := range noNames() {
		wrong(t, told(1, raw(name, 6)))
		wrong(t, told(2, raw("!", 6), raw(name, 6)))
		wrong(t, told(2, raw(name, 6), raw("~", 6)))
	}
}

// P12.4: names must rise, and none may be there twice.
func TestDecodeRisingNames(t *testing.T) {
	is := func(names ...string) []api.Volume {
		var all []api.Volume
		for _, name := range names {
			all = append(all, api.Volume{Name: name, Quota: 3})
		}
		return all
	}
	row := func(names ...string) []byte { return encoded(is(names...)) }
	for _, pair := range [][2]string{{"a", "b"}, {"a", "aa"}, {"aa", "b"}, {"!", "~"}, {"A", "a"}, {"10", "2"}, {strings.Repeat("a", 19), strings.Repeat("a", 20)}} {
		low, high := pair[0], pair[1]
		right(t, row(low, high), is(low, high))
		wrong(t, row(high, low))
		wrong(t, row(low, low))
		wrong(t, told(2, raw(high, 6), raw(high, 7)))
		wrong(t, row(low, high, high))
		wrong(t, row(low, high, low))
	}
	right(t, row("a", "b", "c", "d"), is("a", "b", "c", "d"))
	wrong(t, row("a", "c", "b", "d"))
	wrong(t, row("a", "b", "d", "c"))
	wrong(t, row("b", "a", "c", "d"))
}

// P12.4: the numbers of blocks must rise from one to the next, and be below MaxBlocks.
func TestDecodeNumbers(t *testing.T) {
	row := func(numbers ...uint64) []byte {
		var cells [][]byte
		for i, number := range numbers {
			cells = append(cells, rawCell(number, finger(i)))
		}
		return told(1, raw("a", 20, cells...))
	}
	is := func(numbers ...int) []api.Volume {
		var cells []api.Cell
		for i, number := range numbers {
			cells = append(cells, api.Cell{Number: number, Finger: finger(i)})
		}
		return []api.Volume{{Name: "a", Quota: 10, Cells: cells}}
	}
	right(t, row(), is())
	right(t, row(0), is(0))
	right(t, row(0, 1), is(0, 1))
	right(t, row(127, 128, 300), is(127, 128, 300))
	right(t, row(1<<20-2, 1<<20-1), is(1<<20-2, 1<<20-1))
	for _, number := range []uint64{1 << 20, 1<<20 + 1, 1 << 31, 1 << 32, 1<<32 + 1, 1 << 63, math.MaxUint64} {
		wrong(t, row(number))
		wrong(t, row(0, number))
	}
	for _, numbers := range [][]uint64{{0, 0}, {1, 0}, {5, 5}, {128, 127}, {0, 1, 1}, {0, 1, 0}, {0, 2, 1}, {1, 0, 2}, {1<<20 - 1, 0}} {
		wrong(t, row(numbers...))
	}
	// what a volume has is nothing to the next one
	both := told(2, raw("a", 4, rawCell(9, finger(1))), raw("b", 4, rawCell(0, finger(1))))
	right(t, both, []api.Volume{{Name: "a", Quota: 2, Cells: []api.Cell{{Number: 9, Finger: finger(1)}}}, {Name: "b", Quota: 2, Cells: []api.Cell{{Finger: finger(1)}}}})
}

// P12.4: quotas are 0 to MaxBlocks, with and without 1 more, and no volume has more blocks than its quota.
func TestDecodeQuotas(t *testing.T) {
	for _, quota := range quotas() {
		mark := uint64(2 * quota)
		right(t, told(1, raw("a", mark)), []api.Volume{{Name: "a", Quota: quota}})
		right(t, told(1, raw("a", mark+1)), []api.Volume{{Name: "a", Quota: quota, Frozen: true}})
	}
	for _, mark := range []uint64{2*api.MaxBlocks + 2, 2*api.MaxBlocks + 3, 1 << 31, 1 << 32, 1<<32 + 2, 1 << 63, math.MaxUint64} {
		wrong(t, told(1, raw("a", mark)))
	}
	for blocks := range 6 {
		var rows [][]byte
		var cells []api.Cell
		for i := range blocks {
			rows = append(rows, rawCell(uint64(i), finger(i)))
			cells = append(cells, api.Cell{Number: i, Finger: finger(i)})
		}
		for mark := range uint64(14) {
			b := told(1, raw("a", mark, rows...))
			if int(mark/2) < blocks {
				wrong(t, b)
				continue
			}
			right(t, b, []api.Volume{{Name: "a", Quota: int(mark / 2), Frozen: mark%2 == 1, Cells: cells}})
		}
	}
}

// P12.4: other counts than there are volumes and blocks, bytes that end early, bytes behind, numbers of groups too many.
func TestDecodeForm(t *testing.T) {
	p := some()
	b := encoded(p.all())
	for n := range b {
		wrong(t, b[:n])
	}
	wrong(t, nil)
	for _, more := range []byte{0, 1, 128, 255} {
		wrong(t, append(slices.Clone(b), more))
		wrong(t, []byte{0, more})
	}
	for count := range uint64(20) {
		if count == uint64(len(p.rows)) {
			right(t, told(count, b[1:]), p.all())
		} else {
			wrong(t, told(count, b[1:]))
		}
	}
	for _, count := range []uint64{127, 128, 255, math.MaxInt32, math.MaxInt32 + 1, math.MaxUint32, math.MaxInt64, 1 << 63, math.MaxUint64} {
		wrong(t, told(count))
		wrong(t, told(count, b[1:]))
		wrong(t, slices.Concat([]byte{1, 1, 'a', 128, 128, 128, 1}, told(count)))
		wrong(t, slices.Concat([]byte{1, 1, 'a', 128, 128, 128, 1}, told(count, b[1:])))
		wrong(t, slices.Concat([]byte{1}, told(count, []byte("a")), []byte{2, 0}))
	}
	f := finger(1)
	right(t, slices.Concat([]byte{1, 1, 'a', 2, 1, 5}, f[:]), []api.Volume{{Name: "a", Quota: 1, Cells: []api.Cell{{Number: 5, Finger: f}}}})
	for _, b := range [][]byte{
		slices.Concat([]byte{129, 0, 1, 'a', 2, 1, 5}, f[:]),
		slices.Concat([]byte{1, 129, 0, 'a', 2, 1, 5}, f[:]),
		slices.Concat([]byte{1, 1, 'a', 130, 0, 1, 5}, f[:]),
		slices.Concat([]byte{1, 1, 'a', 2, 129, 0, 5}, f[:]),
		slices.Concat([]byte{1, 1, 'a', 2, 1, 133, 0}, f[:]),
		{1, 1, 'a', 2, 128, 0},
		{1, 1, 'a', 128, 0, 0},
		{128, 0},
		{128},
		bytes.Repeat([]byte{255}, 100),
		bytes.Repeat([]byte{128}, 100),
	} {
		wrong(t, b)
	}
}

// P12.4: whichever byte is another one, taken out, or put in: what is taken is just what the plain one takes.
func TestDecodeOfChangedBytes(t *testing.T) {
	b := encoded(some().all())
	for i := range b {
		for by := 1; by < 256; by++ {
			c := slices.Clone(b)
			c[i] ^= byte(by)
			agrees(t, c)
		}
		agrees(t, slices.Delete(slices.Clone(b), i, i+1))
		for _, more := range []byte{0, 1, 127, 128, 255, b[i]} {
			agrees(t, slices.Insert(slices.Clone(b), i, more))
		}
	}
	for i := range 1 << 16 {
		agrees(t, []byte{byte(i), byte(i >> 8)})
		agrees(t, []byte{1, 1, byte(i), byte(i >> 8), 0})
		agrees(t, []byte{1, 1, 'a', byte(i), byte(i >> 8)})
	}
}

// randomVolume gives bytes that are a volume, or almost.
func randomVolume(r *rand.Rand, i int) []byte {
	name := string(rune('a'+i)) + "some name"[:r.IntN(5)]
	if r.IntN(20) == 0 {
		name = []string{"a", "", " ", "b\x7f", strings.Repeat("f", 20), strings.Repeat("f", 21)}[r.IntN(6)]
	}
	count := r.IntN(4)
	mark := uint64(2*count) + r.Uint64()>>(r.IntN(21)+43)
	if r.IntN(20) == 0 {
		mark = uint64(r.IntN(8))
	}
	var cells [][]byte
	number := uint64(0)
	for range count {
		number += r.Uint64() >> (r.IntN(20) + 44)
		cells = append(cells, rawCell(number, finger(r.IntN(3))))
		number += uint64(1 - r.IntN(10)/9)
	}
	return raw(name, mark, cells...)
}

// P12.4: of random rows of volumes just those are taken that the plain one takes, and both ways there are many.
func TestDecodeOfRandomBytes(t *testing.T) {
	r := rand.New(rand.NewPCG(12, 4))
	var count [2]int
	for range 20000 {
		var rows [][]byte
		for i := range r.IntN(5) {
			rows = append(rows, randomVolume(r, i))
		}
		volumes := uint64(len(rows))
		if r.IntN(20) == 0 {
			volumes += uint64(r.IntN(2))
		}
		b := told(volumes, rows...)
		agrees(t, b)
		if _, may := decoded(b); may {
			count[1]++
		} else {
			count[0]++
		}
	}
	if count[0] < 1000 || count[1] < 1000 {
		t.Errorf("%d are wrong and %d are right", count[0], count[1])
	}
}

// P1, P12.4: a volume of all blocks that it may have has no room for more, and is there and back in good time.
func TestAllBlocks(t *testing.T) {
	s := volume.New()
	s.Create("all", api.MaxBlocks)
	for number := range api.MaxBlocks {
		put(t, s, "all", number, at(number%32, byte(number)), api.Digest{}, false, api.OK)
	}
	put(t, s, "all", api.MaxBlocks, finger(1), api.Digest{}, false, api.ErrRange)
	put(t, s, "all", 5, finger(1), at(5, 5), true, api.OK)
	if err := s.Copy("all", "few", api.MaxBlocks-1, true); err != api.ErrQuota {
		t.Errorf("Copy to a lesser quota: %v", err)
	}
	if err := s.Copy("all", "snap", api.MaxBlocks, true); err != api.OK {
		t.Errorf("Copy: %v", err)
	}
	b := s.Encode()
	other, err := volume.Decode(b)
	if err != api.OK || !same(s.All(), other.All()) || !bytes.Equal(other.Encode(), b) {
		t.Fatalf("there and back: %v", err)
	}
	for number := range api.MaxBlocks {
		other.Drop("all", number)
	}
	if all := other.All(); len(all[0].Cells) != 0 || len(all[1].Cells) != api.MaxBlocks {
		t.Errorf("%d blocks, and %d in the snapshot", len(all[0].Cells), len(all[1].Cells))
	}
}
