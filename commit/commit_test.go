package commit_test

import (
	"bytes"
	"crypto/sha256"
	"encoding/hex"
	"math"
	"slices"
	"strconv"
	"strings"
	"testing"

	"sporran/api"
	"sporran/bin"
	"sporran/blob"
	"sporran/commit"
	"sporran/disk"
	"sporran/index"
	"sporran/pack"
	"sporran/space"
	"sporran/volume"
)

func digest(i int) api.Digest { return sha256.Sum256([]byte(strconv.Itoa(i))) }

// far are numbers at the bounds of all that a commit has, and far beyond them.
func far() []int {
	return []int{
		math.MinInt, math.MinInt + 1, math.MinInt32, -65537, -65536, -65535, -2, -1, 0, 1, 127, 128, 300,
		65534, 65535, 65536, 65537, 1 << 20, math.MaxInt32 - 1, math.MaxInt32, math.MaxInt32 + 1, math.MaxUint32, 1 << 32, math.MaxInt - 1, math.MaxInt,
	}
}

// some gives a commit that has all kinds of things.
func some() api.Commit {
	return api.Commit{
		Epoch:   300,
		Prev:    api.Ref{Digest: digest(1), At: 65535, Len: 65536},
		Volumes: api.Ref{Digest: digest(2), At: 127, Len: 128},
		Index:   api.Ref{Digest: digest(3), At: 2},
		Bins: []api.Bin{
			{Count: 5, Root: digest(4)},
			{Number: 7, At: 65535, Count: 65536, Root: digest(5)},
			{Number: math.MaxInt32, At: 128, Root: api.Digest{}},
		},
		State:  digest(6),
		Events: [][]byte{{0}, []byte("some bytes"), {}, bytes.Repeat([]byte{255}, 130), []byte("some bytes")},
	}
}

// filled gives a commit of just so many bytes, by one event that fills it up.
func filled(t *testing.T, c api.Commit, size int) api.Commit {
	t.Helper()
	c = copied(c)
	c.Events = append(c.Events, nil)
	last := len(c.Events) - 1
	for spare := range 5 {
		c.Events[last] = bytes.Repeat([]byte{1}, max(0, size-len(cut(c).joined())-spare))
		if got := len(cut(c).joined()); got == size {
			return c
		}
		c.Events[last] = nil
	}
	t.Fatalf("no commit of %d bytes", size)
	return c
}

// right asks that Encode of a commit gives just these bytes, and Decode of these the commit.
func right(t *testing.T, c api.Commit, b []byte) {
	t.Helper()
	if got, err := commit.Encode(c); err != api.OK || !bytes.Equal(got, b) {
		t.Fatalf("Encode of epoch %d, %d bins, %d events: %d bytes, %v, not %d bytes", c.Epoch, len(c.Bins), len(c.Events), len(got), err, len(b))
	}
	if got, err := commit.Decode(b); err != api.OK || !same(got, c) {
		t.Fatalf("Decode of %d bytes, %x..: %v", len(b), b[:min(len(b), 300)], err)
	}
}

// comesBack asks that a commit has the bytes that the plain one tells, and comes back.
func comesBack(t *testing.T, c api.Commit) {
	t.Helper()
	right(t, c, cut(c).joined())
}

// refused asks that Encode answers an error, and nothing else.
func refused(t *testing.T, c api.Commit, want api.Errno) {
	t.Helper()
	if b, err := commit.Encode(c); err != want || b != nil {
		t.Fatalf("Encode of epoch %d, %d bins, %d events: %d bytes, %v, not %v", c.Epoch, len(c.Bins), len(c.Events), len(b), err, want)
	}
}

// wrong asks for what Decode gives of bytes that are no commit.
func wrong(t *testing.T, b []byte) {
	t.Helper()
	if c, err := commit.Decode(b); err != api.ErrForm || c.Bins != nil || c.Events != nil || !same(c, api.Commit{}) {
		t.Fatalf("Decode of %d bytes, %x..: %v, %v", len(b), b[:min(len(b), 300)], c, err)
	}
}

// agrees holds Decode of some bytes against the plain one.
func agrees(t *testing.T, b []byte) {
	t.Helper()
	if c, may := decoded(b); may {
		right(t, c, b)
	} else {
		wrong(t, b)
	}
}

// P13.1: the bytes, said one by one.
func TestEncodeByHand(t *testing.T) {
	none := make([]byte, 32)
	right(t, api.Commit{Epoch: 1}, slices.Concat([]byte{1}, none, []byte{0, 0}, none, []byte{0, 0}, none, []byte{0, 0}, []byte{0}, none, []byte{0}))
	row := func(from byte) (b []byte) {
		for i := range byte(32) {
			b = append(b, from+i)
		}
		return b
	}
	c := api.Commit{
		Epoch:   300,
		Prev:    api.Ref{Digest: api.Digest(row(1)), At: 127, Len: 128},
		Volumes: api.Ref{Digest: api.Digest(row(2)), At: 65535, Len: 65536},
		Index:   api.Ref{Digest: api.Digest(row(3)), At: 300, Len: 0},
		Bins:    []api.Bin{{Number: 0, At: 2, Count: 65536, Root: api.Digest(row(4))}, {Number: math.MaxInt32, At: 65535, Count: 0, Root: api.Digest(row(5))}},
		State:   api.Digest(row(6)),
		Events:  [][]byte{[]byte("abc"), nil, {0}, bytes.Repeat([]byte{9}, 128)},
	}
	right(t, c, slices.Concat(
		[]byte{172, 2},
		row(1), []byte{127}, []byte{128, 1},
		row(2), []byte{255, 255, 3}, []byte{128, 128, 4},
		row(3), []byte{172, 2}, []byte{0},
		[]byte{2},
		[]byte{0}, []byte{2}, []byte{128, 128, 4}, row(4),
		[]byte{255, 255, 255, 255, 7}, []byte{255, 255, 3}, []byte{0}, row(5),
		row(6),
		[]byte{4},
		[]byte{3, 'a', 'b', 'c'}, []byte{0}, []byte{1, 0}, []byte{128, 1}, bytes.Repeat([]byte{9}, 128),
	))
}

// The chapter's example: Decode of Encode of a commit is it.
func TestExample(t *testing.T) {
	b, err := commit.Encode(some())
	if err != api.OK {
		t.Fatal(err)
	}
	c, err := commit.Decode(b)
	if err != api.OK || !same(c, some()) {
		t.Errorf("%v, %v", c, err)
	}
}

// P13.1: the parts are those that layers 1, 7 and 10 put.
func TestEncodeByTheLayers(t *testing.T) {
	c := some()
	out := pack.Number(nil, c.Epoch)
	out = blob.Put(blob.Put(blob.Put(out, c.Prev), c.Volumes), c.Index)
	out = pack.Number(out, 3)
	for _, b := range c.Bins {
		out = bin.Put(out, b)
	}
	out = append(out, c.State[:]...)
	out = pack.Number(out, 5)
	for _, event := range c.Events {
		out = pack.Bytes(out, event)
	}
	right(t, c, out)
}

// P13.2: the epoch is 1 and on.
func TestEpochs(t *testing.T) {
	for _, epoch := range []uint64{1, 2, 127, 128, math.MaxUint32, 1 << 32, math.MaxInt64, 1 << 63, math.MaxUint64 - 1, math.MaxUint64} {
		c := some()
		c.Epoch = epoch
		comesBack(t, c)
		comesBack(t, api.Commit{Epoch: epoch})
	}
	c := some()
	c.Epoch = 0
	refused(t, c, api.ErrArg)
	refused(t, api.Commit{}, api.ErrArg)
	wrong(t, cut(c).joined())
	wrong(t, cut(api.Commit{}).joined())
	p := cut(c)
	p.epoch = []byte{255, 255, 255, 255, 255, 255, 255, 255, 255, 2} // 2^64 and more
	wrong(t, p.joined())
}

// P13.2: each of the three Refs is below MaxSectors, and of at most MaxBlob bytes; also that of no commit ahead, whatever the epoch.
func TestRefs(t *testing.T) {
	fields := []func(*api.Commit) *api.Ref{
		func(c *api.Commit) *api.Ref { return &c.Prev },
		func(c *api.Commit) *api.Ref { return &c.Volumes },
		func(c *api.Commit) *api.Ref { return &c.Index },
	}
	for _, field := range fields {
		for _, n := range far() {
			for _, r := range []api.Ref{{Digest: digest(1), At: n, Len: 5}, {Digest: digest(1), At: 5, Len: n}, {At: n}, {Len: n}, {Digest: digest(1), At: n, Len: n}} {
				c := some()
				*field(&c) = r
				if 0 <= r.At && r.At < 65536 && 0 <= r.Len && r.Len <= 65536 {
					comesBack(t, c)
					continue
				}
				refused(t, c, api.ErrArg)
				wrong(t, cut(c).joined())
			}
		}
	}
	for _, epoch := range []uint64{1, 2} {
		comesBack(t, api.Commit{Epoch: epoch})
		comesBack(t, api.Commit{Epoch: epoch, Prev: api.Ref{Digest: digest(1)}})
	}
}

// P13.2: a bin's numbers are those that layer 10 takes, wherever among the others it stands.
func TestBins(t *testing.T) {
	for _, n := range far() {
		for _, b := range []api.Bin{{Number: n, At: 5, Count: 5, Root: digest(1)}, {Number: 5, At: n, Count: 5}, {Number: 5, At: 5, Count: n, Root: digest(2)}, {Number: n, At: n, Count: n}} {
			for _, bins := range [][]api.Bin{{b}, {b, {Number: math.MaxInt32}}, {{Number: 0}, b}, {{Number: 0}, b, {Number: math.MaxInt32}}} {
				c := some()
				c.Bins = bins
				if good(c) {
					comesBack(t, c)
					continue
				}
				refused(t, c, api.ErrArg)
				wrong(t, cut(c).joined())
			}
		}
	}
}

// P13.2: the bins' numbers rise, from each to the next.
func TestBinsRise(t *testing.T) {
	row := func(numbers ...int) api.Commit {
		c := some()
		c.Bins = nil
		for i, n := range numbers {
			c.Bins = append(c.Bins, api.Bin{Number: n, At: 9 - i, Count: 1, Root: digest(9 - i)})
		}
		return c
	}
	for _, numbers := range [][]int{{}, {0}, {0, 1}, {1, 2, 3}, {127, 128, 129}, {5, 300, 70000}, {0, math.MaxInt32}, {math.MaxInt32 - 1, math.MaxInt32}} {
		comesBack(t, row(numbers...))
	}
	for _, numbers := range [][]int{{0, 0}, {1, 0}, {5, 5}, {128, 127}, {256, 1}, {0, 1, 1}, {0, 0, 1}, {0, 2, 1}, {1, 0, 2}, {0, 1, 0}, {0, 1, 2, 2}, {math.MaxInt32, math.MaxInt32}, {math.MaxInt32, 0}} {
		refused(t, row(numbers...), api.ErrArg)
		wrong(t, cut(row(numbers...)).joined())
	}
	c := row(4, 4)
	c.Bins[1] = c.Bins[0]
	refused(t, c, api.ErrArg)
	wrong(t, cut(c).joined())
}

// P13.2: just MaxBlob bytes have room, one more hasn't, whatever it is that makes them so many.
func TestSpace(t *testing.T) {
	for _, c := range []api.Commit{{Epoch: 1}, some(), {Epoch: math.MaxUint64, Events: make([][]byte, 1000)}, {Epoch: 1, Bins: rising(1000)}} {
		comesBack(t, filled(t, c, 65535))
		comesBack(t, filled(t, c, 65536))
		for _, size := range []int{65537, 65538, 65600, 70000, 1 << 17} {
			more := filled(t, c, size)
			refused(t, more, api.ErrSpace)
			wrong(t, cut(more).joined())
		}
	}
}

// rising gives so many bins.
func rising(n int) []api.Bin {
	bins := make([]api.Bin, n)
	for i := range bins {
		bins[i] = api.Bin{Number: i, At: i % 100, Count: 1}
	}
	return bins
}

// P13.2: as many events without bytes, and as many bins, as there is room for, and one more.
func TestSpaceByCounts(t *testing.T) {
	head := len(cut(api.Commit{Epoch: 1}).joined()) - 1
	most := 65536 - head - len(number(65536-200))
	comesBack(t, api.Commit{Epoch: 1, Events: make([][]byte, most)})
	refused(t, api.Commit{Epoch: 1, Events: make([][]byte, most+1)}, api.ErrSpace)
	wrong(t, cut(api.Commit{Epoch: 1, Events: make([][]byte, most+1)}).joined())
	for n := 1780; n < 1860; n++ {
		c := api.Commit{Epoch: 1, Bins: rising(n)}
		if len(cut(c).joined()) <= 65536 {
			comesBack(t, c)
		} else {
			refused(t, c, api.ErrSpace)
			wrong(t, cut(c).joined())
		}
	}
}

// P1, P13.2: there is no room for very many bins and events, and for very many bytes; this is told in good time.
func TestFarTooMany(t *testing.T) {
	for _, n := range []int{1 << 16, 1 << 20} {
		refused(t, api.Commit{Epoch: 1, Bins: rising(n)}, api.ErrSpace)
		refused(t, api.Commit{Epoch: 1, Events: make([][]byte, n)}, api.ErrSpace)
		refused(t, api.Commit{Epoch: 1, Events: [][]byte{make([]byte, n)}}, api.ErrSpace)
		refused(t, api.Commit{Epoch: 1, Events: [][]byte{make([]byte, n), make([]byte, n)}}, api.ErrSpace)
		c := api.Commit{Epoch: 1, Bins: rising(n)}
		c.Bins[n-1].Number = n - 2
		refused(t, c, api.ErrArg)
	}
	refused(t, api.Commit{Epoch: 1, Events: [][]byte{make([]byte, 1<<28)}}, api.ErrSpace)
	refused(t, api.Commit{Epoch: 1, Events: slices.Repeat([][]byte{make([]byte, 1<<16)}, 1<<16)}, api.ErrSpace)
	wrong(t, make([]byte, 1<<24))
	wrong(t, bytes.Repeat([]byte{1}, 1<<24))
}

// P13.2: where a commit may not be, and has no room either, it is told that it may not be.
func TestArgAheadOfSpace(t *testing.T) {
	big := filled(t, some(), 70000)
	for _, change := range []func(*api.Commit){
		func(c *api.Commit) { c.Epoch = 0 },
		func(c *api.Commit) { c.Prev.At = 65536 },
		func(c *api.Commit) { c.Volumes.Len = -1 },
		func(c *api.Commit) { c.Index.Len = 65537 },
		func(c *api.Commit) { c.Bins[0].Number = -1 },
		func(c *api.Commit) { c.Bins[2].Count = 65537 },
		func(c *api.Commit) { c.Bins[1].Number = 0 },
	} {
		c := copied(big)
		change(&c)
		refused(t, c, api.ErrArg)
	}
	refused(t, big, api.ErrSpace)
}

// P13.2: other counts than there are bins and events.
func TestDecodeCounts(t *testing.T) {
	counts := []uint64{127, 128, 255, 65535, 65536, 65537, math.MaxInt32, math.MaxUint32, math.MaxInt64, 1 << 63, math.MaxUint64}
	for count := range uint64(20) {
		counts = append(counts, count)
	}
	for _, count := range counts {
		p := cut(some())
		p.bins = told(count, p.bins[1:])
		agrees(t, p.joined())
		if count != 3 {
			wrong(t, p.joined())
		}
		p = cut(some())
		p.events = told(count, p.events[1:])
		if count != 5 {
			wrong(t, p.joined())
		}
		p.events = told(1, told(count, []byte("abc")))
		if count != 3 {
			wrong(t, p.joined())
		}
	}
}

// P13.2: bytes that end early, bytes behind, numbers of groups too many.
func TestDecodeForm(t *testing.T) {
	b := cut(some()).joined()
	for n := range b {
		wrong(t, b[:n])
	}
	wrong(t, nil)
	for _, more := range []byte{0, 1, 128, 255} {
		wrong(t, append(slices.Clone(b), more))
		wrong(t, append(cut(api.Commit{Epoch: 1}).joined(), more))
		agrees(t, append([]byte{more}, b...)) // the epoch may have one group more
		wrong(t, bytes.Repeat([]byte{more}, 300))
		wrong(t, bytes.Repeat([]byte{more}, 65536))
	}
	c := api.Commit{Epoch: 1, Bins: rising(1), Events: [][]byte{{7}}}
	comesBack(t, c)
	no := api.Digest{}
	ref := func(numbers ...byte) []byte { return append(no[:], numbers...) }
	for _, change := range []func(*parts){
		func(p *parts) { p.epoch = []byte{129, 0} },
		func(p *parts) { p.prev = ref(128, 0, 0) },
		func(p *parts) { p.prev = ref(0, 128, 0) },
		func(p *parts) { p.volumes = ref(128, 0, 0) },
		func(p *parts) { p.volumes = ref(0, 128, 0) },
		func(p *parts) { p.index = ref(128, 0, 0) },
		func(p *parts) { p.index = ref(0, 128, 0) },
		func(p *parts) { p.bins = slices.Concat([]byte{129, 0}, p.bins[1:]) },
		func(p *parts) { p.bins = slices.Concat([]byte{1, 128, 0}, p.bins[2:]) },
		func(p *parts) { p.bins = slices.Concat([]byte{1, 0, 128, 0}, p.bins[3:]) },
		func(p *parts) { p.bins = slices.Concat([]byte{1, 0, 0, 129, 0}, p.bins[4:]) },
		func(p *parts) { p.events = []byte{129, 0, 1, 7} },
		func(p *parts) { p.events = []byte{1, 129, 0, 7} },
	} {
		p := cut(c)
		change(&p)
		wrong(t, p.joined())
	}
}

// P13.2: whichever byte is another one, taken out, or put in: what is taken is just what the plain one takes.
func TestDecodeOfChangedBytes(t *testing.T) {
	for _, c := range []api.Commit{{Epoch: 1}, some()} {
		b := cut(c).joined()
		for i := range b {
			for by := 1; by < 256; by++ {
				other := slices.Clone(b)
				other[i] ^= byte(by)
				agrees(t, other)
			}
			agrees(t, slices.Delete(slices.Clone(b), i, i+1))
			for _, more := range []byte{0, 1, 127, 128, 255, b[i]} {
				agrees(t, slices.Insert(slices.Clone(b), i, more))
			}
		}
	}
}

// P13.2: digests that are known; and those that layer 7 tells, of any bytes.
func TestDigest(t *testing.T) {
	for text, want := range map[string]string{
		"":                        "9b4fb24edd6d1d8830e272398263cdbf026b97392cc35387b991dc0248a628f9",
		"abc":                     "d378a1975aca802a90315df55738d2cc41b30f9bce8ed0fbb6c99f17ef251a6c",
		strings.Repeat("a", 1000): "e78f540ace74c8224f8b8d7e8a6a65b8f9e8b3afaac256a5886778b2699c4b9e",
	} {
		if d := commit.Digest([]byte(text)); hex.EncodeToString(d[:]) != want {
			t.Errorf("Digest of %.10q: %x", text, d)
		}
	}
	if commit.Digest(nil) != commit.Digest([]byte{}) {
		t.Error("a nil list has another digest")
	}
	for _, n := range []int{1, 63, 64, 65, 127, 128, 65535, 65536, 65537, 100000} {
		b := bytes.Repeat([]byte{byte(n)}, n)
		if d := commit.Digest(b); d != api.Digest(sha256.Sum256(slices.Concat([]byte{3}, number(uint64(n)), b))) || d != blob.Of(7, b).Digest {
			t.Errorf("Digest of %d bytes: %x", n, d)
		}
		if !bytes.Equal(b, bytes.Repeat([]byte{byte(n)}, n)) {
			t.Errorf("Digest of %d bytes: they are changed", n)
		}
	}
}

// P13.2: commits that aren't one have bytes and digests that aren't one.
func TestDigestsOfCommits(t *testing.T) {
	seen := map[api.Digest]bool{}
	for _, change := range []func(*api.Commit){
		func(c *api.Commit) {},
		func(c *api.Commit) { c.Epoch = 301 },
		func(c *api.Commit) { c.Prev, c.Volumes = c.Volumes, c.Prev },
		func(c *api.Commit) { c.Volumes, c.Index = c.Index, c.Volumes },
		func(c *api.Commit) { c.Prev.Digest[31]++ },
		func(c *api.Commit) { c.Prev.At-- },
		func(c *api.Commit) { c.Volumes.Len++ },
		func(c *api.Commit) { c.Index.Len++ },
		func(c *api.Commit) { c.Bins[0].Count++ },
		func(c *api.Commit) { c.Bins[1].Number++ },
		func(c *api.Commit) { c.Bins[2].Root[0]++ },
		func(c *api.Commit) { c.Bins = c.Bins[:2] },
		func(c *api.Commit) { c.State[0]++ },
		func(c *api.Commit) { c.Events = c.Events[:4] },
		func(c *api.Commit) { c.Events = c.Events[1:] },
		func(c *api.Commit) { c.Events[0], c.Events[1] = c.Events[1], c.Events[0] },
		func(c *api.Commit) { c.Events = append(c.Events, nil) },
		func(c *api.Commit) { c.Events[0], c.Events[1] = nil, append([]byte{0}, c.Events[1]...) },
	} {
		c := copied(some())
		change(&c)
		comesBack(t, c)
		b, _ := commit.Encode(c)
		if seen[commit.Digest(b)] {
			t.Errorf("%v: its digest is another one's, too", c)
		}
		seen[commit.Digest(b)] = true
	}
}

// P13.1, P13.2: commits of what the layers below write, each with the Ref of the one ahead, are read back from a disk, the last one first.
func TestOnADisk(t *testing.T) {
	d, _ := disk.New(200)
	s, _ := space.New(200, 2)
	volumes, x := volume.New(), index.New()
	volumes.Create("a", 100)
	lay := func(b []byte) api.Ref {
		t.Helper()
		at, err := s.Take(blob.Sectors(len(b)))
		if err != api.OK {
			t.Fatal(err)
		}
		r, err := blob.Write(d, at, b)
		if err != api.OK {
			t.Fatal(err)
		}
		return r
	}
	var last api.Ref
	var all []api.Commit
	for epoch := 1; epoch <= 5; epoch++ {
		block := api.Block{byte(epoch)}
		x.Hold(bin.Finger(block))
		x.Move(bin.Finger(block), api.Place{Bin: epoch - 1})
		volumes.Put("a", epoch, bin.Finger(block))
		at, _ := s.Take(1)
		b, _ := bin.Write(d, epoch-1, at, []api.Block{block})
		c := api.Commit{Epoch: uint64(epoch), Prev: last, Volumes: lay(volumes.Encode()), Index: lay(x.Encode()), Bins: []api.Bin{b}, State: volumes.Trie().Root(), Events: [][]byte{block[:epoch]}}
		if epoch > 1 {
			c.Bins = append(slices.Clone(all[epoch-2].Bins), b)
		}
		told, err := commit.Encode(c)
		if err != api.OK {
			t.Fatal(err)
		}
		last = lay(told)
		if last.Digest != commit.Digest(told) {
			t.Fatal("the Ref has another digest")
		}
		all = append(all, c)
	}
	for i := len(all) - 1; i >= 0; i-- {
		b, err := blob.Read(d, last)
		if err != api.OK {
			t.Fatal(err)
		}
		c, err := commit.Decode(b)
		if err != api.OK || !same(c, all[i]) {
			t.Fatalf("epoch %d: %v, %v", i+1, c, err)
		}
		last = c.Prev
	}
	if last != (api.Ref{}) {
		t.Errorf("ahead of the first one: %v", last)
	}
}
