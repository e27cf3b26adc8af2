package slots_test

import (
	"bytes"
	"crypto/sha256"
	"math"
	"slices"
	"strconv"
	"testing"

	"sporran/api"
	"sporran/blob"
	"sporran/cell"
	"sporran/commit"
	"sporran/disk"
	"sporran/pack"
	"sporran/slots"
)

func digest(i int) api.Digest { return sha256.Sum256([]byte(strconv.Itoa(i))) }

func ref(i, at, length int) api.Ref { return api.Ref{Digest: digest(i), At: at, Len: length} }

// far are numbers at the bounds of all that a Ref has, and far beyond them.
func far() []int {
	return []int{
		math.MinInt, math.MinInt + 1, -1 << 32, math.MinInt32, -65537, -65536, -65535, -2, -1, 0, 1, 2, 127, 128, 300, 16383, 16384,
		65534, 65535, 65536, 65537, 1 << 20, math.MaxInt32, math.MaxUint32, 1 << 32, 1<<32 + 5, math.MaxInt - 1, math.MaxInt,
	}
}

// epochs are some of each kind, also such as are above 2^63.
func epochs(odd bool) []uint64 {
	out := []uint64{0, 2, 4, 126, 256, 300, 1 << 16, 1 << 31, 1 << 32, math.MaxInt64 - 1, 1 << 63, math.MaxUint64 - 1}
	if odd {
		for i := range out {
			out[i]++
		}
	}
	return out
}

// full gives a disk all of whose bytes are of one kind, and last.
func full(t *testing.T, sectors int, with byte) *disk.Disk {
	t.Helper()
	d, err := disk.New(sectors)
	if err != api.OK {
		t.Fatalf("a disk of %d sectors: %v", sectors, err)
	}
	for at := range sectors {
		d.Set(at, filled(with))
	}
	return d
}

func filled(with byte) api.Sector { return api.Sector(bytes.Repeat([]byte{with}, 64)) }

func write(t *testing.T, d *disk.Disk, epoch uint64, r api.Ref) {
	t.Helper()
	if err := slots.Write(d, epoch, r); err != api.OK {
		t.Fatalf("Write of epoch %d, %v: %v", epoch, r, err)
	}
}

// reads asks that a slot tells a Ref.
func reads(t *testing.T, d *disk.Disk, slot int, want api.Ref) {
	t.Helper()
	if r, ok := slots.Read(d, slot); !ok || r != want {
		t.Errorf("Read of %d: %v, %v, not %v", slot, r, ok, want)
	}
}

// nothing asks that a slot tells none.
func nothing(t *testing.T, d *disk.Disk, slot int) {
	t.Helper()
	if r, ok := slots.Read(d, slot); ok || r != (api.Ref{}) {
		t.Errorf("Read of %d: %v, %v", slot, r, ok)
	}
}

// finds asks that the Ref of a digest is found.
func finds(t *testing.T, d *disk.Disk, want api.Ref) {
	t.Helper()
	if r, err := slots.Find(d, want.Digest); err != api.OK || r != want {
		t.Errorf("Find: %v, %v, not %v", r, err, want)
	}
}

// findsNone asks that no slot tells a Ref with that digest.
func findsNone(t *testing.T, d *disk.Disk, digest api.Digest) {
	t.Helper()
	if r, err := slots.Find(d, digest); err != api.ErrTampered || r != (api.Ref{}) {
		t.Errorf("Find: %v, %v", r, err)
	}
}

// agrees holds what a sector tells, in either slot, against the plain telling.
func agrees(t *testing.T, d *disk.Disk, s api.Sector) bool {
	t.Helper()
	want, right := readAs(s)
	for slot := range 2 {
		d.Set(slot, s)
		if r, ok := slots.Read(d, slot); ok != right || r != want {
			t.Fatalf("Read of %d, where %v stands: %v, %v, not %v, %v", slot, s, r, ok, want, right)
		}
	}
	return right
}

func TestFirst(t *testing.T) {
	if slots.First != 2 {
		t.Errorf("First: %d", slots.First)
	}
}

// The chapter's example: Write of epoch 3, Find of the Ref's digest: the Ref.
func TestExample(t *testing.T) {
	d := full(t, 5, 0)
	r := ref(1, 4, 50)
	write(t, d, 3, r)
	finds(t, d, r)
	reads(t, d, 1, r)
	nothing(t, d, 0)
}

// P14.1: the bytes, said one by one.
func TestWriteByHand(t *testing.T) {
	var row []byte
	for i := range byte(32) {
		row = append(row, 200+i)
	}
	none := make([]byte, 25)
	for _, c := range []struct {
		r    api.Ref
		want [][]byte
	}{
		{api.Ref{}, [][]byte{{1}, make([]byte, 63)}},
		{api.Ref{Digest: api.Digest(row), At: 2, Len: 3}, [][]byte{{1}, row, {2, 3}, make([]byte, 29)}},
		{api.Ref{Digest: api.Digest(row), At: 300, Len: 127}, [][]byte{{1}, row, {172, 2, 127}, make([]byte, 28)}},
		{api.Ref{Digest: api.Digest(row), At: 127, Len: 128}, [][]byte{{1}, row, {127, 128, 1}, make([]byte, 28)}},
		{api.Ref{Digest: api.Digest(row), At: 65535, Len: 65536}, [][]byte{{1}, row, {255, 255, 3, 128, 128, 4}, none}},
	} {
		want := api.Sector(slices.Concat(c.want...))
		for epoch, slot := range map[uint64]int{0: 0, 1: 1, 2: 0, 3: 1} {
			d := full(t, 4, 0xee)
			write(t, d, epoch, c.r)
			all := slices.Repeat([]api.Sector{filled(0xee)}, 4)
			all[slot] = want
			if got := d.Image(); !slices.Equal(got, all) {
				t.Errorf("epoch %d, %v: %v", epoch, c.r, got)
			}
			reads(t, d, slot, c.r)
			nothing(t, d, 1-slot)
			finds(t, d, c.r)
		}
	}
}

// P14.1: the number and the Ref are those that layers 1 and 7 put.
func TestWriteByTheLayers(t *testing.T) {
	d := full(t, 2, 0xee)
	r := ref(1, 777, 8888)
	write(t, d, 0, r)
	if got, _ := d.Read(0); got != laid(blob.Put(pack.Number(nil, 1), r)) {
		t.Errorf("%v", got)
	}
}

// P14.1: the slot of even epochs is 0, that of odd ones 1; what stands there is there no more, and the other one is as it was.
func TestWriteEpochs(t *testing.T) {
	d := full(t, 3, 0)
	other := ref(0, 65535, 65536)
	write(t, d, 1, other)
	for i, epoch := range epochs(false) {
		write(t, d, epoch, ref(i, i, i))
		reads(t, d, 0, ref(i, i, i))
		reads(t, d, 1, other)
	}
	write(t, d, 0, other)
	for i, epoch := range epochs(true) {
		write(t, d, epoch, ref(i, i, i))
		reads(t, d, 0, other)
		reads(t, d, 1, ref(i, i, i))
	}
	if s, _ := d.Read(2); s != (api.Sector{}) {
		t.Errorf("behind the slots: %v", s)
	}
}

// P14.1: a Ref below MaxSectors, of at most MaxBlob bytes, is written; of others ErrArg, and nothing is written.
func TestWriteRefs(t *testing.T) {
	d := full(t, 3, 0)
	kept := ref(9, 9, 9)
	write(t, d, 0, kept)
	write(t, d, 1, kept)
	for _, at := range far() {
		for _, length := range far() {
			for _, r := range []api.Ref{ref(1, at, length), {At: at, Len: length}} {
				was := d.Image()
				if good(r) {
					write(t, d, 2, r)
					reads(t, d, 0, r)
					finds(t, d, r)
					write(t, d, 0, kept)
				} else {
					for epoch := range uint64(4) {
						if err := slots.Write(d, epoch, r); err != api.ErrArg {
							t.Fatalf("Write of %v: %v", r, err)
						}
					}
				}
				if !slices.Equal(d.Image(), was) {
					t.Fatalf("Write of %v: the disk has changed", r)
				}
			}
		}
	}
}

// P14.1: ErrRange where the disk has no such sector, behind ErrArg; no power is used.
func TestWriteRefused(t *testing.T) {
	d := full(t, 1, 0xee)
	d.Fuse(1)
	refuse := func(epoch uint64, r api.Ref, want api.Errno) {
		t.Helper()
		if err := slots.Write(d, epoch, r); err != want {
			t.Errorf("Write of epoch %d, %v: %v", epoch, r, err)
		}
		if got := d.Image(); !slices.Equal(got, []api.Sector{filled(0xee)}) || d.Dead() {
			t.Fatalf("Write of epoch %d, %v: something was written", epoch, r)
		}
	}
	for _, bad := range []api.Ref{ref(1, -1, 0), ref(1, 65536, 0), ref(1, 0, -1), ref(1, 0, 65537)} {
		for _, epoch := range append(epochs(false), epochs(true)...) {
			refuse(epoch, bad, api.ErrArg)
		}
	}
	for _, epoch := range epochs(true) {
		refuse(epoch, ref(1, 5, 5), api.ErrRange)
		refuse(epoch, api.Ref{}, api.ErrRange)
	}
	write(t, d, 2, ref(1, 5, 5))
	reads(t, d, 0, ref(1, 5, 5))
	nothing(t, d, 1)
	if !d.Dead() {
		t.Error("a Write has used no power")
	}
}

// P14.1: it is one write, and no sync: without power nothing is written, though it is answered as ever; behind a crash it is there by the pick.
func TestWriteIsOneWrite(t *testing.T) {
	was, next := ref(1, 300, 400), ref(2, 5, 65536)
	for power := range 3 {
		d := full(t, 2, 0xee)
		write(t, d, 7, was)
		d.Sync()
		d.Fuse(power)
		write(t, d, 9, next)
		want := next
		if power == 0 {
			want = was
		}
		reads(t, d, 1, want)
		if d.Dead() != (power <= 1) {
			t.Errorf("power for %d: Dead is %v", power, d.Dead())
		}
		d.Crash(nil)
		reads(t, d, 1, was)
	}
	for pick := range 256 {
		d := full(t, 2, 0xee)
		write(t, d, 7, was)
		d.Sync()
		write(t, d, 9, next)
		d.Crash([]byte{byte(pick)})
		before, behind := told(was), told(next)
		switch keep := pick % 64; pick % 3 {
		case 1:
			before = behind
		case 2:
			copy(before[:], behind[:keep])
		}
		s, _ := d.Read(1)
		if s != before {
			t.Fatalf("pick %d: %v", pick, s)
		}
		if want, right := readAs(s); right {
			reads(t, d, 1, want)
		} else {
			nothing(t, d, 1)
		}
	}
	d := full(t, 2, 0)
	write(t, d, 7, next)
	d.Sync()
	d.Crash(nil)
	reads(t, d, 1, next)
}

// P14.1: slots other than 0 and 1 tell nothing, whatever stands there, nor do those that the disk hasn't.
func TestReadNoSlot(t *testing.T) {
	for sectors := 1; sectors < 6; sectors++ {
		d := full(t, sectors, 0)
		for at := range sectors {
			d.Set(at, told(ref(at, at, at)))
		}
		for _, slot := range append(far(), 3, 4, 5, 6) {
			if (slot == 0 || slot == 1) && slot < sectors {
				reads(t, d, slot, ref(slot, slot, slot))
			} else {
				nothing(t, d, slot)
			}
		}
		for at := 2; at < sectors; at++ {
			findsNone(t, d, digest(at))
		}
	}
}

// P14.1: a sector all of whose bytes are of one kind tells nothing, that of a new disk, too.
func TestReadOfNothing(t *testing.T) {
	for with := range 256 {
		d := full(t, 2, byte(with))
		for slot := range 2 {
			nothing(t, d, slot)
		}
		findsNone(t, d, api.Digest{})
		findsNone(t, d, api.Digest(bytes.Repeat([]byte{byte(with)}, 32)))
	}
	d, _ := disk.New(1)
	nothing(t, d, 0)
	nothing(t, d, 1)
}

// P14.1: whichever byte is whatever other one: the slot tells another Ref, of which Write writes just that, or nothing.
func TestReadOfChangedBytes(t *testing.T) {
	d := full(t, 2, 0)
	for _, r := range []api.Ref{{}, ref(1, 2, 3), ref(2, 127, 128), ref(3, 128, 127), ref(4, 65535, 65536), ref(5, 0, 65536), ref(6, 65535, 0)} {
		s := told(r)
		end := len(blob.Put([]byte{1}, r))
		for i := range s {
			for by := 1; by < 256; by++ {
				other := s
				other[i] ^= byte(by)
				right := agrees(t, d, other)
				switch {
				case i == 0, i >= end:
					if right {
						t.Fatalf("%v, and its byte %d changed: it tells something", s, i)
					}
				case i < 33:
					if got, _ := slots.Read(d, 0); !right || got.At != r.At || got.Len != r.Len || got == r {
						t.Fatalf("%v, and a byte %d of its digest changed: %v", s, i-1, got)
					}
				}
			}
		}
		if !agrees(t, d, s) {
			t.Fatalf("%v tells nothing", s)
		}
	}
}

// P14.1: of numbers around the bounds just those tell something that may be taken.
func TestReadOfBounds(t *testing.T) {
	d := full(t, 2, 0)
	for at := 65530; at < 65540; at++ {
		for length := 65530; length < 65540; length++ {
			if right := agrees(t, d, told(ref(1, at, length))); right != (at <= 65535 && length <= 65536) {
				t.Errorf("At %d, Len %d: %v", at, length, right)
			}
		}
	}
	for _, at := range far() {
		for _, length := range far() {
			agrees(t, d, told(ref(1, at, length)))
		}
	}
}

// P14.1: another number than 1 ahead, numbers of groups too many, and anything but 0 behind tell nothing.
func TestReadForm(t *testing.T) {
	d := full(t, 2, 0)
	row := digest(1)
	if !agrees(t, d, laid([]byte{1}, row[:], []byte{5, 6})) {
		t.Fatal("the right one tells nothing")
	}
	for _, ahead := range [][]byte{{}, {0}, {2}, {3}, {127}, {128}, {129}, {129, 0}, {128, 0}, {128, 1}, {129, 1}, {255, 1}, {1, 1}, {0, 1}, {129, 128, 0}} {
		if agrees(t, d, laid(ahead, row[:], []byte{5, 6})) {
			t.Errorf("%v ahead: it tells something", ahead)
		}
	}
	for _, numbers := range [][]byte{{133, 0, 6}, {128, 0, 6}, {5, 134, 0}, {5, 128, 0}, {133, 128, 0, 6}, {5, 134, 128, 0}, {128, 128, 4, 6}, {5, 129, 128, 4}, {5, 6, 1}, {5, 6, 0, 1}, {5, 6, 128}} {
		if agrees(t, d, laid([]byte{1}, row[:], numbers)) {
			t.Errorf("numbers %v: it tells something", numbers)
		}
	}
	for _, with := range []byte{127, 128, 255} {
		if agrees(t, d, laid([]byte{1}, row[:], bytes.Repeat([]byte{with}, 31))) {
			t.Errorf("%d to the end: it tells something", with)
		}
	}
	for at := range 31 { // each number of groups that has room
		agrees(t, d, laid([]byte{1}, row[:], bytes.Repeat([]byte{128}, at), []byte{1, 7}))
	}
}

// P14.1: of the bytes where a Ref's numbers stand all that may decide, in all their mixtures.
func TestReadOfAllNumbers(t *testing.T) {
	d := full(t, 2, 0)
	row := digest(1)
	some := []byte{0, 1, 3, 4, 127, 128, 129, 255}
	count := 0
	for i := range 1 << (3 * 6) {
		var b [6]byte
		for j := range b {
			b[j] = some[i>>(3*j)&7]
		}
		if agrees(t, d, laid([]byte{1}, row[:], b[:])) {
			count++
		}
	}
	if count < 100 {
		t.Errorf("only %d tell something", count)
	}
}

// P14.2: the slot that has the digest, whichever it is; of both, 0, whatever else they tell.
func TestFind(t *testing.T) {
	d := full(t, 9, 0)
	zero, one := ref(1, 7, 70), ref(2, 8, 80)
	write(t, d, 4, zero)
	write(t, d, 5, one)
	finds(t, d, zero)
	finds(t, d, one)
	findsNone(t, d, digest(3))
	findsNone(t, d, api.Digest{})
	for _, want := range []api.Ref{ref(2, 7, 80), ref(2, 8, 70), ref(2, 0, 0), ref(2, 65535, 65536), one} {
		write(t, d, 6, want)
		finds(t, d, want)
		reads(t, d, 1, one)
		findsNone(t, d, zero.Digest)
	}
	write(t, d, 6, zero)
	finds(t, d, zero)
	finds(t, d, one)
	d.Set(0, api.Sector{})
	findsNone(t, d, zero.Digest)
	finds(t, d, one)
	d.Set(1, api.Sector{2})
	findsNone(t, d, one.Digest)
}

// P14.2: of a digest of which one bit is another: none.
func TestFindOtherDigest(t *testing.T) {
	d := full(t, 2, 0)
	zero, one := ref(1, 7, 70), ref(2, 8, 80)
	write(t, d, 0, zero)
	write(t, d, 1, one)
	for bit := range 256 {
		for _, r := range []api.Ref{zero, one} {
			other := r.Digest
			other[bit/8] ^= 1 << (bit % 8)
			findsNone(t, d, other)
		}
	}
}

// P14.2: where the slot 0 has the digest, but is none of those that Write writes, that of 1 is found; and the other way.
func TestFindBesideATorn(t *testing.T) {
	right := ref(1, 300, 400)
	for _, wrong := range []api.Sector{
		{}, told(ref(1, -1, 400)), told(ref(1, 65536, 400)), told(ref(1, 300, 65537)),
		laid([]byte{2}, right.Digest[:], []byte{5, 6}), laid([]byte{1}, right.Digest[:], []byte{5, 6, 7}),
	} {
		for slot := range 2 {
			d := full(t, 3, 0)
			d.Set(slot, told(right))
			d.Set(1-slot, wrong)
			finds(t, d, right)
			nothing(t, d, 1-slot)
			d.Set(slot, wrong)
			findsNone(t, d, right.Digest)
			findsNone(t, d, api.Digest{})
		}
	}
}

// P14.2: the zero digest is one as any: found where a slot tells it, not where a slot tells nothing.
func TestFindZero(t *testing.T) {
	for slot := range 2 {
		d := full(t, 2, 0)
		findsNone(t, d, api.Digest{})
		write(t, d, uint64(slot), api.Ref{At: 5, Len: 6})
		finds(t, d, api.Ref{At: 5, Len: 6})
		write(t, d, uint64(slot), api.Ref{})
		finds(t, d, api.Ref{})
		d.Set(slot, filled(9))
		findsNone(t, d, api.Digest{})
	}
}

// P14.2: a disk of one sector has the slot 0 alone.
func TestFindOnOneSector(t *testing.T) {
	d := full(t, 1, 0)
	findsNone(t, d, digest(1))
	write(t, d, 0, ref(1, 0, 0))
	finds(t, d, ref(1, 0, 0))
	findsNone(t, d, digest(2))
}

// Rule 7, P14.1, P14.2: Read and Find change nothing, and use no power; they go on without it.
func TestReadChangesNothing(t *testing.T) {
	d := full(t, 3, 0xee)
	write(t, d, 0, ref(1, 5, 6))
	was := d.Image()
	d.Fuse(1)
	for range 3 {
		reads(t, d, 0, ref(1, 5, 6))
		nothing(t, d, 1)
		finds(t, d, ref(1, 5, 6))
		findsNone(t, d, digest(2))
	}
	if d.Dead() || !slices.Equal(d.Image(), was) {
		t.Error("the disk has changed")
	}
	d.Fuse(0)
	reads(t, d, 0, ref(1, 5, 6))
	finds(t, d, ref(1, 5, 6))
	d.Crash([]byte{1}) // the one write that there was
	reads(t, d, 0, ref(1, 5, 6))
}

// lay writes the commit of an epoch, with the Ref of the one ahead, and tells where it stands.
func lay(t *testing.T, d *disk.Disk, epoch uint64, ahead api.Ref) api.Ref {
	t.Helper()
	b, err := commit.Encode(api.Commit{Epoch: epoch, Prev: ahead, Events: [][]byte{{byte(epoch)}}})
	if err != api.OK {
		t.Fatal(err)
	}
	r, err := blob.Write(d, slots.First+int(epoch)*blob.Sectors(len(b)), b)
	if err != api.OK {
		t.Fatal(err)
	}
	d.Sync()
	return r
}

// P14.1, P14.2: who has the cell finds the last commit, or the one ahead where the cell hasn't gone on; but none on an older image.
func TestCommits(t *testing.T) {
	d := full(t, 60, 0)
	c := cell.New(0, api.Digest{})
	findsNone(t, d, api.Digest{})
	var last api.Ref
	var images [][]api.Sector
	for epoch := uint64(1); epoch <= 8; epoch++ {
		next := lay(t, d, epoch, last)
		write(t, d, epoch, next)
		if last != (api.Ref{}) {
			finds(t, d, last) // should the power go by now
		}
		d.Sync()
		c.Advance(next.Digest)
		_, root := c.Get()
		if r, err := slots.Find(d, root); err != api.OK || r != next {
			t.Fatalf("epoch %d: %v, %v", epoch, r, err)
		}
		b, err := blob.Read(d, next)
		if got, _ := commit.Decode(b); err != api.OK || got.Epoch != epoch || got.Prev != last {
			t.Fatalf("epoch %d: %v, %v", epoch, got, err)
		}
		last = next
		images = append(images, d.Image())
	}
	for i, image := range images {
		d.Restore(image)
		if i < len(images)-1 {
			findsNone(t, d, last.Digest)
		} else {
			finds(t, d, last)
		}
	}
}
