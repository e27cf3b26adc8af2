package blob_test

import (
	"bytes"
	"crypto/sha256"
	"encoding/binary"
	"encoding/hex"
	"math"
	"math/rand/v2"
	"slices"
	"strings"
	"sync"
	"testing"

	"sporran/api"
	"sporran/blob"
	"sporran/disk"
	"sporran/pack"
)

// pattern gives n bytes that differ from place to place, none of them 0.
func pattern(n int) []byte {
	b := make([]byte, n)
	for i := range b {
		b[i] = byte((i*i+i>>3+n)%255) + 1
	}
	return b
}

// tagged is the digest told once more: of the byte 3, how many bytes there are, and they.
func tagged(b []byte) api.Digest {
	told := binary.AppendUvarint([]byte{3}, uint64(len(b)))
	return sha256.Sum256(append(told, b...))
}

// full gives a disk all of whose bytes are of one kind, and last.
func full(t *testing.T, sectors int, with byte) *disk.Disk {
	t.Helper()
	d, err := disk.New(sectors)
	if err != api.OK {
		t.Fatalf("a disk of %d sectors: %v", sectors, err)
	}
	fill(d, with)
	return d
}

func fill(d *disk.Disk, with byte) {
	for at := range d.Len() {
		d.Set(at, api.Sector(bytes.Repeat([]byte{with}, api.SectorBytes)))
	}
}

// flat gives all bytes of a disk, as they are seen.
func flat(d *disk.Disk) []byte {
	var out []byte
	for _, s := range d.Image() {
		out = append(out, s[:]...)
	}
	return out
}

// flip changes one byte of a disk, as somebody else would.
func flip(d *disk.Disk, at int, by byte) {
	s, _ := d.Read(at / api.SectorBytes)
	s[at%api.SectorBytes] ^= by
	d.Set(at/api.SectorBytes, s)
}

func write(t *testing.T, d *disk.Disk, at int, b []byte) api.Ref {
	t.Helper()
	r, err := blob.Write(d, at, b)
	if err != api.OK {
		t.Fatalf("Write of %d bytes at %d: %v", len(b), at, err)
	}
	return r
}

// reads asks that a Ref is read, as these bytes.
func reads(t *testing.T, d *disk.Disk, r api.Ref, want []byte) {
	t.Helper()
	if b, err := blob.Read(d, r); err != api.OK || !bytes.Equal(b, want) {
		t.Errorf("Read at %d of %d bytes: %v, %v", r.At, r.Len, b, err)
	}
}

// tampered asks that a Ref isn't read.
func tampered(t *testing.T, d *disk.Disk, r api.Ref) {
	t.Helper()
	if b, err := blob.Read(d, r); err != api.ErrTampered || len(b) > 0 {
		t.Errorf("Read at %d of %d bytes: %d bytes, %v", r.At, r.Len, len(b), err)
	}
}

// far are numbers that are no place on a disk.
func far() []int {
	return []int{math.MinInt, math.MinInt + 1, -1 << 32, -65536, -64, -1, 1 << 16, 1 << 31, 1 << 32, math.MaxInt - 1023, math.MaxInt - 1, math.MaxInt}
}

// P7.1: as few sectors as hold the bytes, one at least; none of a number that can't be.
func TestSectors(t *testing.T) {
	for n, want := range map[int]int{
		math.MinInt: 0, -65: 0, -64: 0, -1: 0,
		0: 1, 1: 1, 63: 1, 64: 1, 65: 2, 127: 2, 128: 2, 129: 3,
		api.MaxBlob - 1: 1024, api.MaxBlob: 1024, api.MaxBlob + 1: 1025,
		math.MaxInt32: 1 << 25, math.MaxInt - 63: 1<<57 - 1, math.MaxInt - 62: 1 << 57, math.MaxInt - 1: 1 << 57, math.MaxInt: 1 << 57,
	} {
		if got := blob.Sectors(n); got != want {
			t.Errorf("Sectors of %d: %d, not %d", n, got, want)
		}
	}
	for n := 1; n < 2000; n++ {
		if got := blob.Sectors(n); got*api.SectorBytes < n || (got-1)*api.SectorBytes >= n {
			t.Errorf("Sectors of %d: %d", n, got)
		}
	}
}

// P7.1: digests that are known.
func TestOfKnown(t *testing.T) {
	for text, want := range map[string]string{
		"":                        "9b4fb24edd6d1d8830e272398263cdbf026b97392cc35387b991dc0248a628f9",
		"abc":                     "d378a1975aca802a90315df55738d2cc41b30f9bce8ed0fbb6c99f17ef251a6c",
		strings.Repeat("a", 1000): "e78f540ace74c8224f8b8d7e8a6a65b8f9e8b3afaac256a5886778b2699c4b9e",
	} {
		r := blob.Of(7, []byte(text))
		if hex.EncodeToString(r.Digest[:]) != want || r.At != 7 || r.Len != len(text) {
			t.Errorf("Of %.10q: %x, %d, %d", text, r.Digest, r.At, r.Len)
		}
	}
	if blob.Of(7, nil) != blob.Of(7, []byte{}) {
		t.Error("a nil list is another one")
	}
}

// P7.1: Of tells any place, of bytes that may be more than a blob's, and leaves them as they are.
func TestOf(t *testing.T) {
	for _, at := range append(far(), 0, 1, 100) {
		for _, n := range []int{0, 1, 63, 64, 65, 127, 128, 129, 4000, api.MaxBlob, api.MaxBlob + 1} {
			b := pattern(n)
			if r := blob.Of(at, b); r != (api.Ref{Digest: tagged(b), At: at, Len: n}) {
				t.Fatalf("Of %d bytes at %d: %v", n, at, r)
			}
			if !bytes.Equal(b, pattern(n)) {
				t.Fatalf("Of %d bytes: they are changed", n)
			}
		}
	}
}

// P7.1: what is written stands in its sectors, the last one filled up with 0, and nothing else has changed.
func TestWrite(t *testing.T) {
	lengths := []int{4000, 4095, 4096}
	for n := range 300 {
		lengths = append(lengths, n)
	}
	d := full(t, 70, 0)
	for _, n := range lengths {
		for _, at := range []int{0, 1, 3, d.Len() - blob.Sectors(n)} {
			fill(d, 0xee)
			b := pattern(n)
			r := write(t, d, at, b)
			want := slices.Repeat([]byte{0xee}, d.Len()*api.SectorBytes)
			clear(want[at*api.SectorBytes : (at+blob.Sectors(n))*api.SectorBytes])
			copy(want[at*api.SectorBytes:], b)
			if !bytes.Equal(flat(d), want) {
				t.Fatalf("%d bytes at %d: the disk has %v", n, at, flat(d))
			}
			if r != (api.Ref{Digest: tagged(b), At: at, Len: n}) || !bytes.Equal(b, pattern(n)) {
				t.Fatalf("%d bytes at %d: %v", n, at, r)
			}
			reads(t, d, r, b)
		}
	}
}

// P7.1: the greatest blob, on a disk that has just its sectors.
func TestWriteGreatest(t *testing.T) {
	d := full(t, api.MaxBlob/api.SectorBytes, 0)
	for _, n := range []int{api.MaxBlob, api.MaxBlob - 1, api.MaxBlob - 63} {
		r := write(t, d, 0, pattern(n))
		reads(t, d, r, pattern(n))
	}
	if _, err := blob.Write(d, 1, pattern(api.MaxBlob)); err != api.ErrRange {
		t.Errorf("one further on: %v", err)
	}
	d = full(t, api.MaxSectors, 0)
	r := write(t, d, api.MaxSectors-1024, pattern(api.MaxBlob))
	reads(t, d, r, pattern(api.MaxBlob))
}

// P7.1: ErrArg of too many bytes, ahead of ErrRange, where not all sectors are there; nothing is written, no power is used.
func TestWriteRefused(t *testing.T) {
	const sectors = 5
	d := full(t, sectors, 0xee)
	was := flat(d)
	d.Fuse(1)
	refuse := func(at, n int, want api.Errno) {
		t.Helper()
		if r, err := blob.Write(d, at, pattern(n)); err != want || r != (api.Ref{}) {
			t.Errorf("Write of %d bytes at %d: %v, %v", n, at, r, err)
		}
		if !bytes.Equal(flat(d), was) || d.Dead() {
			t.Fatalf("Write of %d bytes at %d: something was written", n, at)
		}
	}
	for _, at := range append(far(), sectors, sectors+1) {
		for _, n := range []int{0, 1, 64, 65, 320, 321, api.MaxBlob} {
			refuse(at, n, api.ErrRange)
		}
		refuse(at, api.MaxBlob+1, api.ErrArg)
	}
	for at := range sectors {
		refuse(at, (sectors-at)*api.SectorBytes+1, api.ErrRange)
		refuse(at, api.MaxBlob, api.ErrRange)
		refuse(at, api.MaxBlob+1, api.ErrArg)
		refuse(at, 2*api.MaxBlob, api.ErrArg)
	}
}

// P7.1: ErrArg of too many bytes also where their sectors would be there.
func TestWriteTooMuch(t *testing.T) {
	d := full(t, 2000, 0)
	if r, err := blob.Write(d, 0, pattern(api.MaxBlob+1)); err != api.ErrArg || r != (api.Ref{}) {
		t.Errorf("%v, %v", r, err)
	}
	if !bytes.Equal(flat(d), make([]byte, 2000*api.SectorBytes)) {
		t.Error("something was written")
	}
}

// P7.1: one write for each sector, in order, and no sync: where the power goes, or a crash picks, what was written first is there.
func TestWriteInOrder(t *testing.T) {
	for _, n := range []int{0, 1, 64, 65, 200, 256} {
		sectors := blob.Sectors(n)
		for power := range sectors + 2 {
			d := full(t, 8, 0xee)
			d.Fuse(power)
			b := pattern(n)
			if r, err := blob.Write(d, 2, b); err != api.OK || r != blob.Of(2, b) {
				t.Fatalf("%d bytes, power for %d: %v, %v", n, power, r, err)
			}
			if d.Dead() != (power <= sectors) {
				t.Errorf("%d bytes, power for %d: Dead is %v", n, power, d.Dead())
			}
			want := slices.Repeat([]byte{0xee}, 8*api.SectorBytes)
			laid := append(pattern(n), make([]byte, sectors*api.SectorBytes-n)...)
			copy(want[2*api.SectorBytes:], laid[:min(power, sectors)*api.SectorBytes])
			if !bytes.Equal(flat(d), want) {
				t.Errorf("%d bytes, power for %d: the disk has %v", n, power, flat(d))
			}
		}
	}
	for gone := range 4 {
		d := full(t, 8, 0xee)
		write(t, d, 2, pattern(256))
		picks := []byte{1, 1, 1, 1}
		picks[gone] = 0
		d.Crash(picks)
		for at := range 4 {
			s, _ := d.Read(2 + at)
			if lasts := bytes.Equal(s[:], pattern(256)[at*64:at*64+64]); lasts != (at != gone) {
				t.Errorf("the write %d doesn't last: sector %d has %v", gone, at, s)
			}
		}
	}
}

// P7.1, P7.2: what is written is seen at once, lasts behind a Sync, and is gone with a crash ahead of it.
func TestWriteAndCrash(t *testing.T) {
	d := full(t, 9, 0xee)
	first := write(t, d, 0, pattern(200))
	d.Sync()
	second := write(t, d, 4, pattern(201))
	reads(t, d, second, pattern(201))
	d.Crash(nil)
	reads(t, d, first, pattern(200))
	tampered(t, d, second)
}

// P7.2: whichever byte is changed, by whatever: ErrTampered; put back, it is read again. What fills up the last sector is nothing's.
func TestReadOfChanged(t *testing.T) {
	const at, n = 3, 150
	d := full(t, 8, 0xee)
	r := write(t, d, at, pattern(n))
	for i := range d.Len() * api.SectorBytes {
		for _, by := range []byte{1, 0x80, 0xff} {
			flip(d, i, by)
			if i >= at*api.SectorBytes && i < at*api.SectorBytes+n {
				tampered(t, d, r)
			} else {
				reads(t, d, r, pattern(n))
			}
			flip(d, i, by)
		}
	}
	reads(t, d, r, pattern(n))
}

// P7.2: no bytes are read whatever stands in their sector, if it is there.
func TestReadOfNone(t *testing.T) {
	d := full(t, 3, 0xee)
	for at := range 3 {
		reads(t, d, blob.Of(at, nil), nil)
	}
	for _, at := range append(far(), 3) {
		tampered(t, d, blob.Of(at, nil))
	}
}

// P7.2: a Ref of which anything is another's isn't read.
func TestReadOfAnotherRef(t *testing.T) {
	d := full(t, 12, 0)
	r := write(t, d, 4, pattern(150))
	for i := range r.Digest {
		other := r
		other.Digest[i] ^= 1
		tampered(t, d, other)
	}
	for _, at := range append(far(), 0, 1, 2, 3, 5, 6, 9, 10, 11, 12) {
		other := r
		other.At = at
		tampered(t, d, other)
	}
	for _, n := range append(far(), 0, 1, 149, 151, 152, 192, 193, 512, 513, api.MaxBlob, api.MaxBlob+1) {
		other := r
		other.Len = n
		tampered(t, d, other)
	}
	tampered(t, d, api.Ref{})
	reads(t, d, r, pattern(150))
}

// P7.2: ErrTampered of sectors that aren't all there, and of more bytes than a blob may have, though their digest is right.
func TestReadOutOfBounds(t *testing.T) {
	d := full(t, 5, 0)
	for at := range 5 {
		room := (5 - at) * api.SectorBytes
		reads(t, d, blob.Of(at, make([]byte, room)), make([]byte, room))
		tampered(t, d, blob.Of(at, make([]byte, room+1)))
		tampered(t, d, blob.Of(at, make([]byte, api.MaxBlob)))
	}
	for _, at := range append(far(), 5) {
		for _, n := range []int{0, 1, 64, 65, api.MaxBlob, api.MaxBlob + 1} {
			tampered(t, d, blob.Of(at, make([]byte, n)))
		}
	}
	d = full(t, 2000, 0)
	reads(t, d, blob.Of(3, make([]byte, api.MaxBlob)), make([]byte, api.MaxBlob))
	tampered(t, d, blob.Of(3, make([]byte, api.MaxBlob+1)))
	negative := blob.Of(3, nil)
	negative.Len = -1
	tampered(t, d, negative)
}

// P7.2: whoever wrote them: any bytes that stand somewhere are read by their Ref, a part of others also.
func TestReadOfAnyBytes(t *testing.T) {
	d := full(t, 6, 0)
	write(t, d, 1, pattern(300))
	all := flat(d)
	for at := range d.Len() {
		for n := range (d.Len()-at)*api.SectorBytes + 1 {
			want := all[at*api.SectorBytes:][:n]
			reads(t, d, blob.Of(at, want), want)
		}
	}
}

// Rule 4: Write keeps none of what is handed in, and each Read answers new memory; Read changes nothing.
func TestSharesNothing(t *testing.T) {
	d := full(t, 8, 0xee)
	b := pattern(130)
	r := write(t, d, 2, b)
	clear(b)
	was := flat(d)
	first, _ := blob.Read(d, r)
	second, _ := blob.Read(d, r)
	clear(first)
	_ = append(first, bytes.Repeat([]byte{9}, 100)...)
	if !bytes.Equal(second, pattern(130)) || !bytes.Equal(flat(d), was) {
		t.Error("two answers, or an answer and the disk, share bytes")
	}
	d.Fuse(1)
	reads(t, d, r, pattern(130))
	if d.Dead() {
		t.Error("Read has used power")
	}
	d.Write(0, api.Sector{})
	reads(t, d, r, pattern(130)) // without power, too
}

// ref gives a Ref whose digest's bytes are all different.
func ref(at, n int) api.Ref {
	r := api.Ref{At: at, Len: n}
	for i := range r.Digest {
		r.Digest[i] = byte(200 + 3*i)
	}
	return r
}

// refBytes is a Ref as bytes told once more.
func refBytes(d api.Digest, at, n uint64) []byte {
	return binary.AppendUvarint(binary.AppendUvarint(d[:], at), n)
}

// P7.3: the digest, At and Len, behind what is there; of numbers below 0 modulo 2^64.
func TestPut(t *testing.T) {
	numbers := append(far(), 0, 1, 127, 128, 300, 65535, 65536, 65537)
	for _, at := range numbers {
		for _, n := range numbers {
			r := ref(at, n)
			want := refBytes(r.Digest, uint64(at), uint64(n))
			if got := blob.Put(nil, r); !bytes.Equal(got, want) {
				t.Fatalf("Put of %v: %v", r, got)
			}
			if got := blob.Put([]byte{5, 6}, r); !bytes.Equal(got, append([]byte{5, 6}, want...)) {
				t.Fatalf("Put of %v behind others: %v", r, got)
			}
		}
	}
	r := ref(300, 5)
	if got := blob.Put([]byte{}, r); !bytes.Equal(got, append(r.Digest[:], 172, 2, 5)) {
		t.Errorf("said by hand: %v", got)
	}
}

// Rule 4: what Put answers is new memory; what is handed in, and the room behind it, isn't changed.
func TestPutSharesNothing(t *testing.T) {
	room := bytes.Repeat([]byte{7}, 100)
	out := room[:10]
	first := blob.Put(out, ref(1, 2))
	second := blob.Put(out, ref(3, 4))
	clear(first[:10])
	third := blob.Put(second, ref(5, 6))
	fourth := blob.Put(second, ref(7, 8))
	for i, c := range []struct{ got, want []byte }{
		{room, bytes.Repeat([]byte{7}, 100)},
		{second, append(bytes.Repeat([]byte{7}, 10), blob.Put(nil, ref(3, 4))...)},
		{third[len(second):], blob.Put(nil, ref(5, 6))},
		{fourth[len(second):], blob.Put(nil, ref(7, 8))},
		{first, append(make([]byte, 10), blob.Put(nil, ref(1, 2))...)},
	} {
		if !bytes.Equal(c.got, c.want) {
			t.Errorf("%d: %v, not %v", i, c.got, c.want)
		}
	}
}

// P7.3: what can be taken is taken as it was put, one Ref behind the other; what is behind is left.
func TestTake(t *testing.T) {
	refs := []api.Ref{{}, ref(0, 0), ref(1, 1), ref(127, 128), ref(65535, 65536), ref(65535, 0), ref(0, 65536), ref(2, 150)}
	var b []byte
	for _, r := range refs {
		b = blob.Put(b, r)
	}
	in := pack.From(pack.Number(b, 99))
	for _, want := range refs {
		if r := blob.Take(in); r != want || in.Wrong() {
			t.Errorf("%v, not %v", r, want)
		}
	}
	if in.Number(99) != 99 || in.Done() != api.OK {
		t.Error("what is behind isn't left")
	}
}

// P7.3: what isn't a Ref that may be gives the zero one, and goes wrong, for ever.
func TestTakeWrong(t *testing.T) {
	d := ref(0, 0).Digest
	right := refBytes(d, 300, 400)
	cases := [][]byte{
		refBytes(d, 65536, 0), refBytes(d, 65536, 5), refBytes(d, 65537, 0), refBytes(d, math.MaxUint64, 0), refBytes(d, 1<<32, 0), refBytes(d, 1<<63, 0),
		refBytes(d, 0, 65537), refBytes(d, 5, 65537), refBytes(d, 0, math.MaxUint64), refBytes(d, 65535, 1<<32), refBytes(d, 65535, 1<<63),
		refBytes(d, 65536, 65537),
		slices.Concat(d[:], []byte{128, 0, 5}), slices.Concat(d[:], []byte{5, 128, 0}), // a number of more groups than it must have
		slices.Concat(d[:], bytes.Repeat([]byte{255}, 12)),
	}
	for n := range right {
		cases = append(cases, right[:n])
	}
	for _, b := range cases {
		in := pack.From(b)
		if r := blob.Take(in); r != (api.Ref{}) || !in.Wrong() || in.Done() != api.ErrForm {
			t.Errorf("%v: %v", b, r)
		}
		if r := blob.Take(in); r != (api.Ref{}) || in.Number(math.MaxUint64) != 0 || !in.Wrong() {
			t.Errorf("%v: it is right again: %v", b, r)
		}
	}
	in := pack.From(slices.Concat(refBytes(d, 65536, 1), right))
	if blob.Take(in) != (api.Ref{}) || blob.Take(in) != (api.Ref{}) || in.Done() != api.ErrForm {
		t.Error("behind one that is wrong another one is taken")
	}
	in = pack.From(right)
	in.Number(0) // goes wrong ahead of it
	if blob.Take(in) != (api.Ref{}) || in.Done() != api.ErrForm {
		t.Error("behind a number that is wrong a Ref is taken")
	}
}

// P7.3: of numbers around the greatest ones just those that may be are taken.
func TestTakeBounds(t *testing.T) {
	for at := uint64(65530); at < 65540; at++ {
		for n := uint64(65530); n < 65540; n++ {
			want := ref(int(at), int(n))
			in := pack.From(refBytes(want.Digest, at, n))
			right := at < api.MaxSectors && n <= api.MaxBlob
			if !right {
				want = api.Ref{}
			}
			if r := blob.Take(in); r != want || in.Wrong() == right {
				t.Errorf("At %d, Len %d: %v", at, n, r)
			}
		}
	}
}

// plain is a disk told once more, as a row of bytes.
type plain []byte

func (p plain) room(at, n int) bool {
	return at >= 0 && at < len(p)/64 && n <= len(p)-at*64
}

func (p plain) write(at int, b []byte) (api.Ref, api.Errno) {
	if !p.room(at, len(b)) {
		return api.Ref{}, api.ErrRange
	}
	end := max(len(b), 1)
	for end%64 != 0 {
		end++
	}
	clear(p[at*64:][:end])
	copy(p[at*64:], b)
	return api.Ref{Digest: tagged(b), At: at, Len: len(b)}, api.OK
}

func (p plain) read(r api.Ref) ([]byte, api.Errno) {
	if r.Len < 0 || !p.room(r.At, r.Len) || tagged(p[r.At*64:][:r.Len]) != r.Digest {
		return nil, api.ErrTampered
	}
	return p[r.At*64:][:r.Len], api.OK
}

// step writes, or changes a byte, or reads what was written earlier, and tells whether the plain disk answers the same.
func step(r *rand.Rand, d *disk.Disk, p plain, refs *[]api.Ref) bool {
	switch r.IntN(4) {
	case 0:
		at, b := r.IntN(len(p)/64+3)-1, pattern(r.IntN(400))
		got, err := blob.Write(d, at, b)
		want, wantErr := p.write(at, b)
		if err == api.OK {
			*refs = append(*refs, got)
		}
		return got == want && err == wantErr
	case 1:
		at, by := r.IntN(len(p)), byte(r.IntN(256))
		flip(d, at, by)
		p[at] ^= by
	default:
		if len(*refs) == 0 {
			break
		}
		one := (*refs)[max(r.IntN(len(*refs)), len(*refs)-1-r.IntN(5))]
		if r.IntN(8) == 0 {
			one.Len += r.IntN(3) - 1
		}
		got, err := blob.Read(d, one)
		want, wantErr := p.read(one)
		return bytes.Equal(got, want) && err == wantErr
	}
	return true
}

// P7.1, P7.2: whatever is written, changed and read, in whatever order: it is as the plain disk tells.
func TestAgainstPlain(t *testing.T) {
	for seed := range uint64(60) {
		r := rand.New(rand.NewPCG(seed, 7))
		d := full(t, 1+r.IntN(20), 0)
		p := make(plain, d.Len()*api.SectorBytes)
		var refs []api.Ref
		for i := range 120 {
			if !step(r, d, p, &refs) {
				t.Fatalf("seed %d, step %d: another answer", seed, i)
			}
			if !bytes.Equal(flat(d), p) {
				t.Fatalf("seed %d, step %d: another disk", seed, i)
			}
		}
	}
}

// P2: disks have nothing in common; the same calls give the same answers, also at one time.
func TestDisksAreTheirOwn(t *testing.T) {
	same := make([]bool, 8)
	var all sync.WaitGroup
	for i := range same {
		all.Go(func() {
			r := rand.New(rand.NewPCG(uint64(i/2), 1))
			d, _ := disk.New(12)
			p := make(plain, d.Len()*api.SectorBytes)
			var refs []api.Ref
			same[i] = true
			for range 100 {
				same[i] = step(r, d, p, &refs) && same[i]
			}
		})
	}
	all.Wait()
	if slices.Contains(same, false) {
		t.Error("disks at one time give other answers")
	}
}
