package bin_test

import (
	"bytes"
	"encoding/binary"
	"encoding/hex"
	"math"
	"math/rand/v2"
	"slices"
	"sync"
	"testing"

	"sporran/api"
	"sporran/bin"
	"sporran/disk"
	"sporran/pack"
)

// block gives a block of which no byte is 0; those of other small numbers are others.
func block(n int) api.Block {
	var b api.Block
	for i := range b {
		b[i] = byte((n*7+i*i+i>>2)%255) + 1
	}
	return b
}

// row gives n blocks, each another one.
func row(n int) []api.Block {
	blocks := make([]api.Block, n)
	for i := range blocks {
		blocks[i] = block(i)
		copy(blocks[i][20:], []byte{byte(i), byte(i >> 8)})
	}
	return blocks
}

// full gives a disk all of whose bytes are of one kind, and last.
func full(t *testing.T, sectors int, with byte) *disk.Disk {
	t.Helper()
	d, err := disk.New(sectors)
	if err != api.OK {
		t.Fatalf("a disk of %d sectors: %v", sectors, err)
	}
	fill(d, with)
	return d
}

func fill(d *disk.Disk, with byte) {
	for at := range d.Len() {
		d.Set(at, api.Sector(bytes.Repeat([]byte{with}, 64)))
	}
}

// flat gives all bytes of a disk, as they are seen.
func flat(d *disk.Disk) plain {
	var out plain
	for _, s := range d.Image() {
		out = append(out, s[:]...)
	}
	return out
}

// flip changes one byte of a disk, as somebody else would.
func flip(d *disk.Disk, at int, by byte) {
	s, _ := d.Read(at / 64)
	s[at%64] ^= by
	d.Set(at/64, s)
}

func write(t *testing.T, d *disk.Disk, at int, blocks []api.Block) api.Bin {
	t.Helper()
	b, err := bin.Write(d, 5, at, blocks)
	if err != api.OK {
		t.Fatalf("Write of %d blocks at %d: %v", len(blocks), at, err)
	}
	return b
}

// reads asks that the block of a slot is read.
func reads(t *testing.T, d *disk.Disk, b api.Bin, slot int, want api.Block) {
	t.Helper()
	if got, err := bin.Read(d, b, slot, fingerOf(want)); err != api.OK || got != want {
		t.Errorf("Read of %v, %d: %v, %v", b, slot, got, err)
	}
}

// refuses asks that no block is read.
func refuses(t *testing.T, d *disk.Disk, b api.Bin, slot int, finger api.Digest, want api.Errno) {
	t.Helper()
	if got, err := bin.Read(d, b, slot, finger); err != want || got != (api.Block{}) {
		t.Errorf("Read of %v, %d: %v, %v, not %v", b, slot, got, err, want)
	}
}

// readsAll asks that all blocks are read.
func readsAll(t *testing.T, d *disk.Disk, b api.Bin, want []api.Block) {
	t.Helper()
	if got, err := bin.All(d, b); err != api.OK || !slices.Equal(got, want) {
		t.Errorf("All of %v: %v, %v", b, got, err)
	}
}

// tampered asks that not all blocks are read.
func tampered(t *testing.T, d *disk.Disk, b api.Bin) {
	t.Helper()
	if got, err := bin.All(d, b); err != api.ErrTampered || len(got) > 0 {
		t.Errorf("All of %v: %v, %v", b, got, err)
	}
}

// far are numbers that are no place on a disk.
func far() []int {
	return []int{math.MinInt, math.MinInt + 1, -1 << 32, -65536, -64, -1, 1 << 16, 1 << 31, 1 << 32, math.MaxInt - 64, math.MaxInt - 1, math.MaxInt}
}

// named gives blocks that are easily told: noughts, rising bytes, bytes 255, a text.
func named() (noughts, rising, ffs, text api.Block) {
	for i := range rising {
		rising[i], ffs[i] = byte(i), 255
	}
	copy(text[:], "abc")
	return
}

// P10.1: fingerprints that are known.
func TestFingerKnown(t *testing.T) {
	noughts, rising, ffs, text := named()
	for want, b := range map[string]api.Block{
		"adaa3344ede817570304606f4118e1cbbdc650f4662ded3579672e77cd7de92c": noughts,
		"ebe3a494dbcaf9842a108daed7dd3f3e198c90c768ae5b86660db71482a751a7": rising,
		"81ac5ae859cb7479acfb0b25c78af7e825364081542ee267fa32b02c5dfa5de0": ffs,
		"08f61dc35b843b9804dea683cc2c4d6c9a655e51386d3e8cb0fcf517d20f1309": text,
	} {
		if got := bin.Finger(b); hex.EncodeToString(got[:]) != want {
			t.Errorf("%v: %x", b, got)
		}
	}
}

// P10.1: a fingerprint hangs on each bit of the block.
func TestFinger(t *testing.T) {
	b := block(3)
	for bit := range len(b) * 8 {
		other := b
		other[bit/8] ^= 1 << (bit % 8)
		if got := bin.Finger(other); got != fingerOf(other) || got == bin.Finger(b) {
			t.Errorf("bit %d: %x", bit, got)
		}
	}
}

// P10.1: roots that are known, also where blocks are there twice.
func TestWriteKnown(t *testing.T) {
	noughts, rising, ffs, text := named()
	for want, blocks := range map[string][]api.Block{
		"9cf00ef761f91b41111e8b7ed0cd0144913f3da56f56109b1008e6ed9884128d": {noughts},
		"571883f3d75fe6362ed56e491d94cfae984641636d05c99693772ee02d5b45cd": {noughts, noughts},
		"f118b8583955c85ddfbd8f68fa74d55446bc3a4532012a3363b4dde97fc82ba4": {rising, ffs, text},
		"4a6dd09ac7bc7f5562174674b1db1208e842e2bbf9e9ae768518a6e9e7a05f48": {noughts, rising, ffs, text, noughts},
	} {
		b := write(t, full(t, 7, 0xee), 2, blocks)
		if hex.EncodeToString(b.Root[:]) != want || b.Number != 5 || b.At != 2 || b.Count != len(blocks) {
			t.Errorf("%v: %v", blocks, b)
		}
	}
}

// P10.1, P10.2: each block stands in its own sector, 16 times 0 behind it, and nothing else has changed; all are read again.
func TestWrite(t *testing.T) {
	d := full(t, 45, 0)
	for n := 1; n <= 40; n++ {
		for _, at := range []int{0, 1, 3, d.Len() - n} {
			fill(d, 0xee)
			blocks := row(n)
			b := write(t, d, at, blocks)
			want := plain(bytes.Repeat([]byte{0xee}, 45*64))
			for i, one := range row(n) {
				copy(want[(at+i)*64:], slices.Concat(one[:], make([]byte, 16)))
			}
			if !bytes.Equal(flat(d), want) {
				t.Fatalf("%d blocks at %d: the disk has %v", n, at, flat(d))
			}
			if b != (api.Bin{Number: 5, At: at, Count: n, Root: rootOf(row(n))}) || !slices.Equal(blocks, row(n)) {
				t.Fatalf("%d blocks at %d: %v", n, at, b)
			}
			readsAll(t, d, b, blocks)
			for slot, one := range blocks {
				reads(t, d, b, slot, one)
			}
		}
	}
}

// P10.1: any number but one below 0 may be a bin's; nothing else hangs on it.
func TestWriteNumbers(t *testing.T) {
	d := full(t, 6, 0xee)
	want := write(t, d, 1, row(3))
	for _, number := range []int{0, 1, 127, 128, math.MaxInt32, math.MaxInt32 + 1, math.MaxInt} {
		want.Number = number
		b, err := bin.Write(d, number, 1, row(3))
		if err != api.OK || b != want {
			t.Errorf("%d: %v, %v", number, b, err)
		}
		readsAll(t, d, b, row(3))
		reads(t, d, b, 2, row(3)[2])
	}
	for _, number := range []int{-1, math.MinInt} {
		want.Number = number
		readsAll(t, d, want, row(3))
		reads(t, d, want, 2, row(3)[2])
	}
}

// P10.1, P10.2: as many blocks as a disk may have sectors.
func TestWriteMost(t *testing.T) {
	d := full(t, api.MaxSectors, 0xee)
	blocks := row(api.MaxSectors)
	if b, err := bin.Write(d, 0, 1, blocks); err != api.ErrRange || b != (api.Bin{}) {
		t.Errorf("one further on: %v, %v", b, err)
	}
	if b, err := bin.Write(d, 0, 0, append(blocks, block(0))); err != api.ErrRange || b != (api.Bin{}) {
		t.Errorf("one more: %v, %v", b, err)
	}
	b := write(t, d, 0, blocks)
	if b != (api.Bin{Number: 5, Count: api.MaxSectors, Root: rootOf(blocks)}) {
		t.Errorf("%v", b)
	}
	readsAll(t, d, b, blocks)
	for _, slot := range []int{0, 1, 40000, api.MaxSectors - 1} {
		reads(t, d, b, slot, blocks[slot])
	}
	refuses(t, d, b, api.MaxSectors, fingerOf(blocks[0]), api.ErrRange)
	if got := bin.Take(pack.From(bin.Put(nil, b))); got != b {
		t.Errorf("put and taken: %v", got)
	}
}

// P10.1: ErrArg of a number below 0, or of no blocks, ahead of ErrRange, where not all sectors are there; nothing is written, no power is used.
func TestWriteRefused(t *testing.T) {
	const sectors = 5
	d := full(t, sectors, 0xee)
	was := flat(d)
	d.Fuse(1)
	refuse := func(number, at int, blocks []api.Block, want api.Errno) {
		t.Helper()
		if b, err := bin.Write(d, number, at, blocks); err != want || b != (api.Bin{}) {
			t.Errorf("Write of %d, %d blocks at %d: %v, %v", number, len(blocks), at, b, err)
		}
		if !bytes.Equal(flat(d), was) || d.Dead() {
			t.Fatalf("Write of %d, %d blocks at %d: something was written", number, len(blocks), at)
		}
	}
	for at := -1; at <= sectors+1; at++ {
		for _, number := range []int{-1, -2, math.MinInt32, math.MinInt} {
			refuse(number, at, row(1), api.ErrArg)
			refuse(number, at, row(sectors+1), api.ErrArg)
			refuse(number, at, nil, api.ErrArg)
		}
		refuse(0, at, nil, api.ErrArg)
		refuse(7, at, []api.Block{}, api.ErrArg)
		for n := max(sectors-at, 0) + 1; n <= sectors+2; n++ {
			refuse(0, at, row(n), api.ErrRange)
		}
	}
	for _, at := range append(far(), sectors) {
		refuse(0, at, nil, api.ErrArg)
		refuse(-1, at, row(1), api.ErrArg)
		for _, n := range []int{1, 2, sectors, sectors + 1, 64, 65, 100} {
			refuse(math.MaxInt, at, row(n), api.ErrRange)
		}
	}
}

// P10.1: one write for each block, in order, and no sync: where the power goes, what was written first is there.
func TestWriteInOrder(t *testing.T) {
	for _, n := range []int{1, 2, 3, 6} {
		for power := range n + 2 {
			d := full(t, 8, 0xee)
			d.Fuse(power)
			want := flat(full(t, 8, 0xee))
			if now := min(power, n); now > 0 {
				want.write(5, 2, row(n)[:now])
			}
			b := write(t, d, 2, row(n))
			if b.Root != rootOf(row(n)) || b.Count != n {
				t.Errorf("%d blocks, power for %d: %v", n, power, b)
			}
			if d.Dead() != (power <= n) {
				t.Errorf("%d blocks, power for %d: Dead is %v", n, power, d.Dead())
			}
			if !bytes.Equal(flat(d), want) {
				t.Errorf("%d blocks, power for %d: the disk has %v", n, power, flat(d))
			}
		}
	}
}

// P10.1: of the writes since the last Sync a crash picks one for each block, in order.
func TestWritesOfCrash(t *testing.T) {
	for gone := range 4 {
		d := full(t, 8, 0xee)
		b := write(t, d, 2, row(4))
		picks := []byte{1, 1, 1, 1}
		picks[gone] = 0
		d.Crash(picks)
		tampered(t, d, b)
		for slot, one := range row(4) {
			if slot == gone {
				refuses(t, d, b, slot, fingerOf(one), api.ErrTampered)
			} else {
				reads(t, d, b, slot, one)
			}
		}
	}
	d := full(t, 9, 0xee)
	first := write(t, d, 0, row(4))
	d.Sync()
	second := write(t, d, 4, row(5))
	readsAll(t, d, second, row(5))
	d.Crash(nil)
	readsAll(t, d, first, row(4))
	tampered(t, d, second)
}

// P10.2: whichever byte is changed, by whatever: those who read it tell it; put back, all is read again. What fills the sectors up is nothing's.
func TestReadOfChanged(t *testing.T) {
	const at, n = 2, 3
	d := full(t, 7, 0xee)
	b := write(t, d, at, row(n))
	for i := range d.Len() * 64 {
		for _, by := range []byte{1, 0x80, 0xff} {
			flip(d, i, by)
			changed := i/64 - at // the slot
			if i%64 >= 48 {
				changed = -1
			}
			if changed >= 0 && changed < n {
				tampered(t, d, b)
			} else {
				readsAll(t, d, b, row(n))
			}
			for slot, one := range row(n) {
				if slot == changed {
					refuses(t, d, b, slot, fingerOf(one), api.ErrTampered)
				} else {
					reads(t, d, b, slot, one)
				}
			}
			flip(d, i, by)
		}
	}
	readsAll(t, d, b, row(n))
}

// P10.2: a block is read by its own fingerprint alone, whatever the bin's number and root are.
func TestReadByFinger(t *testing.T) {
	d := full(t, 8, 0)
	b := write(t, d, 2, row(4))
	for slot, one := range row(4) {
		for other, it := range row(4) {
			if other != slot {
				refuses(t, d, b, slot, fingerOf(it), api.ErrTampered)
			}
		}
		for bit := range 256 {
			finger := fingerOf(one)
			finger[bit/8] ^= 1 << (bit % 8)
			refuses(t, d, b, slot, finger, api.ErrTampered)
		}
		for _, finger := range []api.Digest{{}, tagged(6), tagged(0, one[:]), tagged(3, one[:]), b.Root} {
			refuses(t, d, b, slot, finger, api.ErrTampered)
		}
		other := b
		other.Root, other.Number = api.Digest{1}, -7
		reads(t, d, other, slot, one)
		other.Count = math.MaxInt // though not all its sectors are there
		reads(t, d, other, slot, one)
		other.Count = slot + 1
		reads(t, d, other, slot, one)
	}
	swapped := row(4)
	swapped[1], swapped[2] = swapped[2], swapped[1]
	write(t, d, 2, swapped)
	refuses(t, d, b, 1, fingerOf(row(4)[1]), api.ErrTampered)
	refuses(t, d, b, 2, fingerOf(row(4)[2]), api.ErrTampered)
	reads(t, d, b, 0, row(4)[0])
	reads(t, d, b, 3, row(4)[3])
	tampered(t, d, b)
}

// P10.2: ErrRange of a slot that there isn't, whatever else is wrong.
func TestReadSlots(t *testing.T) {
	d := full(t, 8, 0)
	b := write(t, d, 2, row(3))
	finger := fingerOf(api.Block{})
	for _, slot := range append(far(), 3, 4, 5) {
		refuses(t, d, b, slot, finger, api.ErrRange)
		refuses(t, d, b, slot, fingerOf(row(3)[0]), api.ErrRange)
		for _, at := range append(far(), 8) {
			refuses(t, d, api.Bin{At: at, Count: 3}, slot, api.Digest{}, api.ErrRange)
		}
	}
	for _, count := range []int{0, -1, math.MinInt} {
		for _, slot := range append(far(), 0, 1) {
			refuses(t, d, api.Bin{At: 0, Count: count}, slot, finger, api.ErrRange)
		}
	}
	refuses(t, d, api.Bin{Count: math.MaxInt}, math.MaxInt, finger, api.ErrRange)
	refuses(t, d, api.Bin{}, 0, finger, api.ErrRange)
}

// P10.2: ErrTampered where At is no sector, though At and slot is one, or where that is none.
func TestReadPlaces(t *testing.T) {
	const sectors = 6
	d := full(t, sectors, 0)
	finger := fingerOf(api.Block{}) // that of each block that stands there
	for at := -3; at < sectors+3; at++ {
		for slot := range sectors + 6 {
			b := api.Bin{At: at, Count: sectors + 6}
			if at >= 0 && at+slot < sectors {
				reads(t, d, b, slot, api.Block{})
			} else {
				refuses(t, d, b, slot, finger, api.ErrTampered)
			}
		}
	}
	for _, at := range append(far(), 0, 1, 5, 6) {
		for _, slot := range []int{6, 65535, 65536, 1<<31 - 1, math.MaxInt - 6, math.MaxInt - 1} {
			refuses(t, d, api.Bin{At: at, Count: math.MaxInt}, slot, finger, api.ErrTampered)
		}
	}
	for _, at := range far() {
		refuses(t, d, api.Bin{At: at, Count: 9}, 0, finger, api.ErrTampered)
	}
	refuses(t, d, api.Bin{At: -5, Count: 9}, 5, finger, api.ErrTampered)
	refuses(t, d, api.Bin{At: math.MinInt + 1, Count: math.MaxInt}, math.MaxInt-1, finger, api.ErrTampered)
}

// P10.2: a bin of which anything is another's isn't read as a whole; its number is nothing's.
func TestAllOfAnotherBin(t *testing.T) {
	d := full(t, 14, 0)
	b := write(t, d, 4, row(5))
	for bit := range 256 {
		other := b
		other.Root[bit/8] ^= 1 << (bit % 8)
		tampered(t, d, other)
	}
	for _, at := range append(far(), 0, 1, 3, 5, 9, 10, 13, 14) {
		other := b
		other.At = at
		tampered(t, d, other)
	}
	for _, count := range append(far(), 0, 1, 2, 3, 4, 6, 7, 8, 9, 10, 11) {
		other := b
		other.Count = count
		tampered(t, d, other)
	}
	tampered(t, d, api.Bin{})
	readsAll(t, d, b, row(5))
	twin := write(t, d, 9, row(5)) // the same blocks stand there, too
	if twin.Root != b.Root {
		t.Error("the root hangs on the place")
	}
	b.At = 9
	readsAll(t, d, b, row(5))
}

// P10.2: ErrTampered of no blocks, and of sectors that aren't all there, though the root is right.
func TestAllOutOfBounds(t *testing.T) {
	const sectors = 5
	d := full(t, sectors, 0)
	for at := -2; at <= sectors+1; at++ {
		tampered(t, d, api.Bin{At: at, Root: tagged(2)})
		tampered(t, d, api.Bin{At: at, Count: -1, Root: tagged(2)})
		for n := 1; n <= sectors+2; n++ {
			b := api.Bin{At: at, Count: n, Root: rootOf(make([]api.Block, n))}
			if at >= 0 && at+n <= sectors {
				readsAll(t, d, b, make([]api.Block, n))
			} else {
				tampered(t, d, b)
			}
		}
	}
	for _, at := range far() {
		for _, count := range append(far(), 0, 1, 5) {
			tampered(t, d, api.Bin{At: at, Count: count, Root: tagged(2)})
		}
		tampered(t, d, api.Bin{At: at, Count: 1, Root: rootOf(make([]api.Block, 1))})
	}
}

// P10.2: whoever wrote them: any blocks that stand somewhere are read by their root, and by their fingerprints.
func TestReadOfAnyBytes(t *testing.T) {
	d := full(t, 6, 0)
	r := rand.New(rand.NewPCG(1, 2))
	for i := range 6 * 64 {
		flip(d, i, byte(r.IntN(256)))
	}
	p := flat(d)
	for at := range 6 {
		for n := 1; at+n <= 6; n++ {
			var blocks []api.Block
			for i := range n {
				blocks = append(blocks, p.block(at+i))
			}
			b := api.Bin{At: at, Count: n, Root: rootOf(blocks)}
			readsAll(t, d, b, blocks)
			for slot, one := range blocks {
				reads(t, d, b, slot, one)
			}
		}
	}
}

// Rule 4: Write keeps none of what is handed in, and each All answers new memory; Read and All change nothing, and need no power.
func TestSharesNothing(t *testing.T) {
	d := full(t, 8, 0xee)
	blocks := row(4)
	b := write(t, d, 2, blocks)
	clear(blocks)
	was := flat(d)
	first, _ := bin.All(d, b)
	second, _ := bin.All(d, b)
	clear(first)
	_ = append(first, blocks...)
	if !slices.Equal(second, row(4)) || !bytes.Equal(flat(d), was) {
		t.Error("two answers, or an answer and the disk, share blocks")
	}
	d.Fuse(1)
	readsAll(t, d, b, row(4))
	reads(t, d, b, 1, row(4)[1])
	if d.Dead() {
		t.Error("power is used")
	}
	d.Write(0, api.Sector{})
	readsAll(t, d, b, row(4))
	reads(t, d, b, 3, row(4)[3])
}

// binOf gives a bin whose root's bytes are all different.
func binOf(number, at, count int) api.Bin {
	b := api.Bin{Number: number, At: at, Count: count}
	for i := range b.Root {
		b.Root[i] = byte(200 + 3*i)
	}
	return b
}

// binBytes is a bin as bytes told once more.
func binBytes(number, at, count uint64) []byte {
	var out []byte
	for _, v := range []uint64{number, at, count} {
		out = binary.AppendUvarint(out, v)
	}
	root := binOf(0, 0, 0).Root
	return append(out, root[:]...)
}

// P10.3: Number, At, Count and the root, behind what is there; of numbers below 0 modulo 2^64.
func TestPut(t *testing.T) {
	numbers := append(far(), 0, 1, 127, 128, 300, 65535, math.MaxInt32)
	for _, number := range numbers {
		for _, at := range numbers {
			for _, count := range numbers {
				b := binOf(number, at, count)
				want := binBytes(uint64(number), uint64(at), uint64(count))
				if got := bin.Put(nil, b); !bytes.Equal(got, want) {
					t.Fatalf("Put of %v: %v", b, got)
				}
				if got := bin.Put([]byte{5, 6}, b); !bytes.Equal(got, append([]byte{5, 6}, want...)) {
					t.Fatalf("Put of %v behind others: %v", b, got)
				}
			}
		}
	}
	b := binOf(300, 5, 128)
	if got := bin.Put([]byte{}, b); !bytes.Equal(got, append([]byte{172, 2, 5, 128, 1}, b.Root[:]...)) {
		t.Errorf("said by hand: %v", got)
	}
}

// Rule 4: what Put answers is new memory; what is handed in, and the room behind it, isn't changed.
func TestPutSharesNothing(t *testing.T) {
	room := bytes.Repeat([]byte{7}, 100)
	first := bin.Put(room[:10], binOf(1, 2, 3))
	second := bin.Put(room[:10], binOf(3, 4, 5))
	clear(first[:10])
	third := bin.Put(second, binOf(5, 6, 7))
	fourth := bin.Put(second, binOf(7, 8, 9))
	for i, c := range []struct{ got, want []byte }{
		{room, bytes.Repeat([]byte{7}, 100)},
		{second, append(bytes.Repeat([]byte{7}, 10), binBytes(3, 4, 5)...)},
		{third[len(second):], binBytes(5, 6, 7)},
		{fourth[len(second):], binBytes(7, 8, 9)},
		{first, append(make([]byte, 10), binBytes(1, 2, 3)...)},
	} {
		if !bytes.Equal(c.got, c.want) {
			t.Errorf("%d: %v, not %v", i, c.got, c.want)
		}
	}
}

// P10.3: what can be taken is taken as it was put, one bin behind the other; what is behind is left.
func TestTake(t *testing.T) {
	bins := []api.Bin{
		{}, binOf(0, 0, 0), binOf(1, 2, 3), binOf(127, 128, 300), binOf(math.MaxInt32, 65535, 65536),
		binOf(math.MaxInt32, 0, 0), binOf(0, 65535, 0), binOf(0, 0, 65536), write(t, full(t, 9, 0), 2, row(7)),
	}
	var b []byte
	for _, one := range bins {
		b = bin.Put(b, one)
	}
	in := pack.From(pack.Number(b, 99))
	for _, want := range bins {
		if got := bin.Take(in); got != want || in.Wrong() {
			t.Errorf("%v, not %v", got, want)
		}
	}
	if in.Number(99) != 99 || in.Done() != api.OK {
		t.Error("what is behind isn't left")
	}
}

// P10.3: what isn't a bin that may be gives the zero one, and goes wrong, for ever.
func TestTakeWrong(t *testing.T) {
	const most = math.MaxInt32
	right := binBytes(300, 400, 500)
	root := right[len(right)-32:]
	cases := [][]byte{
		binBytes(most+1, 0, 0), binBytes(most+1, 5, 5), binBytes(1<<32, 5, 5), binBytes(1<<63, 5, 5), binBytes(math.MaxUint64, 5, 5),
		binBytes(5, 65536, 5), binBytes(5, 65537, 5), binBytes(5, 1<<32, 5), binBytes(5, 1<<63, 5), binBytes(5, math.MaxUint64, 5),
		binBytes(5, 5, 65537), binBytes(5, 5, 1<<32), binBytes(5, 5, 1<<63), binBytes(5, 5, math.MaxUint64),
		binBytes(most+1, 65536, 65537),
		slices.Concat([]byte{128, 0, 5, 5}, root), slices.Concat([]byte{5, 128, 0, 5}, root), slices.Concat([]byte{5, 5, 128, 0}, root), // numbers of more groups than they must have
		bytes.Repeat([]byte{255}, 60),
		bin.Put(nil, binOf(-1, 5, 5)), bin.Put(nil, binOf(5, -1, 5)), bin.Put(nil, binOf(5, 5, -1)),
	}
	for n := range right {
		cases = append(cases, right[:n])
	}
	for _, b := range cases {
		in := pack.From(b)
		if got := bin.Take(in); got != (api.Bin{}) || !in.Wrong() || in.Done() != api.ErrForm {
			t.Errorf("%v: %v", b, got)
		}
		if got := bin.Take(in); got != (api.Bin{}) || in.Number(math.MaxUint64) != 0 || !in.Wrong() {
			t.Errorf("%v: it is right again: %v", b, got)
		}
	}
	in := pack.From(slices.Concat(binBytes(1, 65536, 1), right))
	if bin.Take(in) != (api.Bin{}) || bin.Take(in) != (api.Bin{}) || in.Done() != api.ErrForm {
		t.Error("behind one that is wrong another one is taken")
	}
	in = pack.From(right)
	in.Number(0) // goes wrong ahead of it
	if bin.Take(in) != (api.Bin{}) || in.Done() != api.ErrForm {
		t.Error("behind a number that is wrong a bin is taken")
	}
}

// P10.3: of numbers around the greatest ones just those that may be are taken.
func TestTakeBounds(t *testing.T) {
	for number := uint64(math.MaxInt32 - 2); number < math.MaxInt32+3; number++ {
		for at := uint64(65533); at < 65539; at++ {
			for count := uint64(65533); count < 65539; count++ {
				want := binOf(int(number), int(at), int(count))
				right := number <= math.MaxInt32 && at < api.MaxSectors && count <= api.MaxSectors
				if !right {
					want = api.Bin{}
				}
				in := pack.From(binBytes(number, at, count))
				if got := bin.Take(in); got != want || in.Wrong() == right {
					t.Errorf("%d, %d, %d: %v", number, at, count, got)
				}
			}
		}
	}
}

// some gives up to n blocks of few kinds.
func some(r *rand.Rand, n int) []api.Block {
	blocks := make([]api.Block, r.IntN(n+1))
	for i := range blocks {
		blocks[i] = block(r.IntN(3))
	}
	return blocks
}

// near gives a bin that is this one, or almost.
func near(r *rand.Rand, b api.Bin) api.Bin {
	switch r.IntN(6) {
	case 0:
		b.At += r.IntN(3) - 1
	case 1:
		b.Count += r.IntN(3) - 1
	case 2:
		b.Number = r.IntN(9) - 4
	}
	return b
}

// step writes, or changes a byte, or reads what was written earlier, and tells whether the plain disk answers the same.
func step(r *rand.Rand, d *disk.Disk, p plain, bins *[]api.Bin) bool {
	switch r.IntN(6) {
	case 0:
		number, at, blocks := r.IntN(9)-1, r.IntN(d.Len()+3)-1, some(r, 6)
		got, err := bin.Write(d, number, at, blocks)
		want, wantErr := p.write(number, at, blocks)
		if err == api.OK {
			*bins = append(*bins, got)
		}
		return got == want && err == wantErr
	case 1:
		at, by := r.IntN(len(p)), byte(r.IntN(256))
		flip(d, at, by)
		p[at] ^= by
		return true
	}
	if len(*bins) == 0 {
		return true
	}
	b := near(r, (*bins)[max(r.IntN(len(*bins)), len(*bins)-1-r.IntN(5))])
	if r.IntN(2) == 0 {
		got, err := bin.All(d, b)
		want, wantErr := p.all(b)
		return slices.Equal(got, want) && err == wantErr
	}
	slot, finger := r.IntN(8)-1, fingerOf(block(r.IntN(3)))
	got, err := bin.Read(d, b, slot, finger)
	want, wantErr := p.read(b, slot, finger)
	return got == want && err == wantErr
}

// P10.1, P10.2: whatever is written, changed and read, in whatever order: it is as the plain disk tells.
func TestAgainstPlain(t *testing.T) {
	for seed := range uint64(60) {
		r := rand.New(rand.NewPCG(seed, 7))
		d := full(t, 1+r.IntN(20), 0)
		p := flat(d)
		var bins []api.Bin
		for i := range 150 {
			if !step(r, d, p, &bins) {
				t.Fatalf("seed %d, step %d: another answer", seed, i)
			}
			if !bytes.Equal(flat(d), p) {
				t.Fatalf("seed %d, step %d: another disk", seed, i)
			}
		}
	}
}

// P2: disks have nothing in common; the same calls give the same answers, also at one time.
func TestDisksAreTheirOwn(t *testing.T) {
	same := make([]bool, 8)
	var all sync.WaitGroup
	for i := range same {
		all.Go(func() {
			r := rand.New(rand.NewPCG(uint64(i/2), 1))
			d, _ := disk.New(12)
			p := flat(d)
			var bins []api.Bin
			same[i] = true
			for range 100 {
				same[i] = step(r, d, p, &bins) && same[i]
			}
		})
	}
	all.Wait()
	if slices.Contains(same, false) {
		t.Error("disks at one time give other answers")
	}
}
