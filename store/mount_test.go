package store_test

import (
	"math"
	"slices"
	"testing"

	"sporran/api"
	"sporran/bin"
	"sporran/blob"
	"sporran/cell"
	"sporran/commit"
	"sporran/disk"
	"sporran/index"
	"sporran/model"
	"sporran/slots"
	"sporran/store"
	"sporran/volume"
)

// P16.1: a disk of fewer than 3 sectors: ErrRange, ahead of what its cell has.
func TestMountOfSmallDisks(t *testing.T) {
	for sectors := 1; sectors < 3; sectors++ {
		d, _ := disk.New(sectors)
		for _, c := range []*cell.Cell{cell.New(0, api.Digest{}), cell.New(0, api.Digest{1}), cell.New(1, api.Digest{1}), cell.New(math.MaxUint64, api.Digest{})} {
			if s, err := store.Mount(d, c); s != nil || err != api.ErrRange {
				t.Errorf("%d sectors: %v, %v", sectors, s, err)
			}
		}
	}
}

// P16.1, P16.2: a cell that never advanced: an empty store, whatever stands on the disk.
func TestMountOfNothing(t *testing.T) {
	for _, sectors := range []int{3, 4, 100, api.MaxSectors} {
		r := newRig(t, sectors)
		for at := range min(sectors, 10) {
			r.d.Set(at, api.Sector{1, 2, 3})
		}
		r.mount()
		r.holds()
		r.counts(0, sectors-2)
		if epoch, root := r.s.State(); epoch != 0 || root != tagged(5) {
			t.Errorf("State: %d, %v", epoch, root)
		}
		if rows, err := r.s.Audit(); len(rows) > 0 || err != api.OK {
			t.Errorf("Audit: %v, %v", rows, err)
		}
		if rows, err := r.s.Prove("a", 0); len(rows) > 0 || err != api.OK {
			t.Errorf("Prove: %v, %v", rows, err)
		}
		if r.s.Tampered() {
			t.Error("tampered")
		}
	}
}

// P16.1: of the counter 0 the root is zero; else it is ErrTampered, also where a slot tells a commit with that root.
func TestMountOfNoEpoch(t *testing.T) {
	r := newRig(t, 50)
	r.do(create("a", 1))
	r.flush(api.OK)
	_, root := r.c.Get()
	r.c = cell.New(0, root)
	r.noMount()
	for i := range root {
		digest := api.Digest{}
		digest[i] = 1
		r.c = cell.New(0, digest)
		r.noMount()
	}
	r.c = cell.New(0, api.Digest{})
	r.mount()
	r.counts(0, 48)
}

// hand is a disk on which commits are laid by hand.
type hand struct {
	d    *disk.Disk
	next int // the first sector on which nothing was laid
}

func (h *hand) lay(b []byte) api.Ref {
	r, _ := blob.Write(h.d, h.next, b)
	h.next += blob.Sectors(len(b))
	return r
}

func (h *hand) layBlocks(number int, blocks ...api.Block) api.Bin {
	b, _ := bin.Write(h.d, number, h.next, blocks)
	h.next += len(blocks)
	return b
}

const handSectors = 80

// byHand lays commits of the epochs 1 to 3, each as alter lets it be, and gives the disk, and the cell for it; and where there is room.
func byHand(alter func(h *hand, c *api.Commit)) (*rig, int) {
	d, _ := disk.New(handSectors)
	h := &hand{d: d, next: 2}
	var last api.Ref
	for epoch := uint64(1); epoch <= 3; epoch++ {
		set, x := volume.New(), index.New()
		set.Create("a", 100)
		one, two := block(1), block(byte(epoch+1))
		set.Put("a", 1, finger(one))
		set.Put("a", 2, finger(two))
		for slot, b := range []api.Block{one, two} {
			x.Hold(finger(b))
			x.Move(finger(b), api.Place{Bin: 7, Slot: slot})
		}
		c := api.Commit{
			Epoch: epoch, Prev: last, Volumes: h.lay(set.Encode()), Index: h.lay(x.Encode()),
			Bins: []api.Bin{h.layBlocks(7, one, two)}, State: set.Trie().Root(), Events: [][]byte{{byte(epoch)}},
		}
		alter(h, &c)
		b, err := commit.Encode(c)
		if err != api.OK {
			panic(err)
		}
		last = h.lay(b)
	}
	slots.Write(d, 3, last)
	return &rig{d: d, c: cell.New(3, last.Digest), m: model.New()}, handSectors - h.next
}

func nothing(*hand, *api.Commit) {}

// P16.1, P16.2: what was laid by hand is mounted, and what is taken is just what hangs on the commit.
func TestMountByHand(t *testing.T) {
	r, room := byHand(nothing)
	r.t = t
	r.d.Sync()
	r.mount()
	for _, o := range []api.Op{create("a", 100), write("a", 1, 1), write("a", 2, 4)} {
		r.m.Do(o)
	}
	r.holds()
	r.counts(2, room+2*(2+2+2)) // the blocks, volumes and indexes of the epochs 1 and 2 are nothing's
	if epoch, root := r.s.State(); epoch != 3 || root != r.last().State {
		t.Errorf("State: %d, %v", epoch, root)
	}
	for i, c := range r.commits() {
		if len(c.Events) != 1 || c.Events[0][0] != byte(3-i) {
			t.Errorf("%v", c)
		}
	}
	r.do(write("a", 9, 9))
	r.flush(api.OK)
	r.bins([2]int{7, 2}, [2]int{8, 1})
	r.mount()
	r.holds()
}

// only lets a commit of one epoch be another one.
func only(epoch uint64, alter func(h *hand, c *api.Commit)) func(h *hand, c *api.Commit) {
	return func(h *hand, c *api.Commit) {
		if c.Epoch == epoch {
			alter(h, c)
		}
	}
}

// P16.1: what Mount asks of the last commit, and of those ahead; whatever isn't so is ErrTampered.
func TestMountAsks(t *testing.T) {
	type alter = func(h *hand, c *api.Commit)
	set := volume.New()
	set.Create("a", 5)
	set.Put("a", 0, finger(block(1)))
	for name, change := range map[string]alter{
		"the epoch is 4":             only(3, func(_ *hand, c *api.Commit) { c.Epoch = 4 }),
		"the epoch is 2":             only(3, func(_ *hand, c *api.Commit) { c.Epoch = 2 }),
		"no volumes":                 only(3, func(_ *hand, c *api.Commit) { c.Volumes = api.Ref{} }),
		"volumes elsewhere":          only(3, func(_ *hand, c *api.Commit) { c.Volumes.At++ }),
		"volumes beyond the disk":    only(3, func(_ *hand, c *api.Commit) { c.Volumes.At = 60000 }),
		"fewer bytes of volumes":     only(3, func(_ *hand, c *api.Commit) { c.Volumes.Len-- }),
		"volumes that are none":      only(3, func(h *hand, c *api.Commit) { c.Volumes = h.lay([]byte{1}) }),
		"the index for volumes":      only(3, func(_ *hand, c *api.Commit) { c.Volumes = c.Index }),
		"other volumes":              only(3, func(h *hand, c *api.Commit) { c.Volumes = h.lay(set.Encode()) }),
		"another state":              only(3, func(_ *hand, c *api.Commit) { c.State[31]++ }),
		"the state of no volumes":    only(3, func(_ *hand, c *api.Commit) { c.State = tagged(5) }),
		"no index":                   only(3, func(_ *hand, c *api.Commit) { c.Index = api.Ref{} }),
		"an index elsewhere":         only(3, func(_ *hand, c *api.Commit) { c.Index.At-- }),
		"an index that is none":      only(3, func(h *hand, c *api.Commit) { c.Index = h.lay([]byte{0, 0}) }),
		"a bin beyond the disk":      only(3, func(_ *hand, c *api.Commit) { c.Bins[0].At = handSectors - 1 }),
		"a bin far beyond the disk":  only(3, func(_ *hand, c *api.Commit) { c.Bins[0].At = 65535 }),
		"a bin of too many blocks":   only(3, func(_ *hand, c *api.Commit) { c.Bins[0].At, c.Bins[0].Count = 1, handSectors }),
		"a second bin too great":     only(3, func(_ *hand, c *api.Commit) { c.Bins = append(c.Bins, api.Bin{Number: 9, At: 2, Count: 65536}) }),
		"no commit ahead":            only(3, func(_ *hand, c *api.Commit) { c.Prev = api.Ref{} }),
		"a commit ahead elsewhere":   only(3, func(_ *hand, c *api.Commit) { c.Prev.At++ }),
		"another commit ahead":       only(3, func(_ *hand, c *api.Commit) { c.Prev.Digest[0]++ }),
		"fewer bytes of a commit":    only(3, func(_ *hand, c *api.Commit) { c.Prev.Len-- }),
		"a commit ahead that isn't":  only(3, func(h *hand, c *api.Commit) { c.Prev = h.lay([]byte("none")) }),
		"an epoch left out":          only(2, func(_ *hand, c *api.Commit) { c.Epoch = 1 }),
		"an epoch twice":             only(2, func(_ *hand, c *api.Commit) { c.Epoch = 3 }),
		"the epoch 1 is 2":           only(1, func(_ *hand, c *api.Commit) { c.Epoch = 2 }),
		"no commit ahead of epoch 2": only(2, func(_ *hand, c *api.Commit) { c.Prev = api.Ref{} }),
		"one ahead of epoch 1":       only(1, func(h *hand, c *api.Commit) { c.Prev = h.lay([]byte{1}) }),
		"a place ahead of epoch 1":   only(1, func(_ *hand, c *api.Commit) { c.Prev.At = 1 }),
		"a length ahead of epoch 1":  only(1, func(_ *hand, c *api.Commit) { c.Prev.Len = 1 }),
		"a digest ahead of epoch 1":  only(1, func(_ *hand, c *api.Commit) { c.Prev.Digest[5] = 1 }),
	} {
		r, _ := byHand(change)
		r.t = t
		if s, err := store.Mount(r.d, r.c); s != nil || err != api.ErrTampered {
			t.Errorf("%s: %v, %v", name, s, err)
		}
	}
}

// P16.1: what Mount doesn't ask: what hangs on the commits ahead, and what stands in the bins.
func TestMountDoesNotAsk(t *testing.T) {
	ahead := func(_ *hand, c *api.Commit) {
		if c.Epoch < 3 {
			c.Volumes, c.Index, c.State, c.Bins = api.Ref{At: 70}, api.Ref{Len: 1}, api.Digest{}, []api.Bin{{At: 65535, Count: 65536}}
		}
	}
	unlike := func(h *hand, c *api.Commit) {
		x := index.New()
		c.Index = h.lay(x.Encode())
		c.Bins = []api.Bin{{Number: 3, At: handSectors - 2, Count: 2}} // up to the disk's end
	}
	for name, change := range map[string]func(h *hand, c *api.Commit){"ahead": ahead, "bins and index": only(3, unlike)} {
		r, _ := byHand(change)
		r.t = t
		s, err := store.Mount(r.d, r.c)
		if s == nil || err != api.OK {
			t.Errorf("%s: %v", name, err)
		}
	}
	r, _ := byHand(nothing)
	r.t = t
	for at := range handSectors {
		if s, _ := r.d.Read(at); s == sectorOf(block(4)) {
			r.d.Set(at, api.Sector{})
		}
	}
	r.mount()
	if a := r.s.Do(read("a", 2)); a.Err != api.ErrTampered || a.There {
		t.Errorf("%v", a)
	}
	r.mount()
	if a := r.s.Do(read("a", 1)); a.Err != api.OK || a.Block != block(1) {
		t.Errorf("%v", a)
	}
}

func sectorOf(b api.Block) api.Sector {
	var s api.Sector
	copy(s[:], b[:])
	return s
}

// P16.1: the cell's counter must be the epoch, its root the commit's digest, and a slot must tell where that is.
func TestMountAsksTheCell(t *testing.T) {
	r, _ := byHand(nothing)
	r.t = t
	_, root := r.c.Get()
	for _, counter := range []uint64{0, 1, 2, 4, 1 << 32, math.MaxUint64} {
		r.c = cell.New(counter, root)
		r.noMount()
	}
	for i := range root {
		other := root
		other[i] ^= 128
		r.c = cell.New(3, other)
		r.noMount()
	}
	r.c = cell.New(3, api.Digest{})
	r.noMount()
	r.c = cell.New(3, root)
	r.mount()

	told, _ := r.d.Read(1)
	r.d.Set(1, api.Sector{})
	r.noMount()
	r.d.Set(0, told) // the other slot tells it: whose epochs it has isn't asked
	r.mount()
	for _, at := range []int{33, 34, 35, 36, 63} { // the place, the length, and behind them
		other := told
		other[at]++
		r.d.Set(0, other)
		r.noMount()
		r.d.Set(1, told) // the first slot with that digest counts, if it tells something
		_, tells := slots.Read(r.d, 0)
		if tells {
			r.noMount()
		} else {
			r.mount()
		}
		r.d.Set(1, api.Sector{})
	}
	r.d.Set(1, told)
	r.d.Set(0, api.Sector{})
	r.mount()
}

// P16.1: a root whose bytes are there, but aren't a commit.
func TestMountOfNoCommit(t *testing.T) {
	for _, b := range [][]byte{nil, {1}, []byte("some bytes"), make([]byte, 300)} {
		r := newRig(t, 20)
		ref, _ := blob.Write(r.d, 5, b)
		slots.Write(r.d, 1, ref)
		r.c = cell.New(1, ref.Digest)
		r.noMount()
	}
}

// P1: what hangs on a commit may tell of blocks that nowhere are; that is found out when they are read.
func TestMountOfNonsense(t *testing.T) {
	first, second := finger(block(1)), finger(block(4)) // of the numbers 1 and 2
	for i, items := range [][]api.Item{
		nil,
		{{Finger: second, Place: api.Place{Bin: -1}, Uses: 1}},
		{{Finger: second, Place: api.Place{Bin: 6}, Uses: 1}},
		{{Finger: second, Place: api.Place{Bin: 7, Slot: 2}, Uses: 1}},
		{{Finger: second, Place: api.Place{Bin: 7, Slot: 65535}, Uses: 1}},
		{{Finger: second, Place: api.Place{Bin: 7}, Uses: 1}, {Finger: first, Place: api.Place{Bin: 7}, Uses: 9}, {Finger: tagged(9), Place: api.Place{Bin: 7}, Uses: 2}},
	} {
		x := index.New()
		for _, item := range items {
			for range item.Uses {
				x.Hold(item.Finger)
			}
			x.Move(item.Finger, item.Place)
		}
		for _, ops := range [][]api.Op{{}, {write("a", 2, 9), trim("a", 1), write("a", 2, 4)}, {snapshot("a", "s"), clone("a", "c", 9), trim("a", 2), remove("a")}} {
			r, _ := byHand(only(3, func(h *hand, c *api.Commit) { c.Index = h.lay(x.Encode()) }))
			r.t = t
			r.mount()
			for _, o := range ops {
				r.s.Do(o)
			}
			for _, o := range slices.Concat(ops, []api.Op{read("a", 1), read("a", 2), read("s", 2), read("c", 2)}) {
				if a := r.s.Do(o); a.There && a.Block != block(1) && a.Block != block(4) && a.Block != block(9) {
					t.Errorf("%d: %v: %v", i, o, a)
				}
			}
			r.mount()
			for _, o := range ops {
				r.s.Do(o)
			}
			r.s.Flush()
			r.s.Collect()
			if a := r.s.Do(read("a", 2)); len(ops) == 0 && a.Err != api.ErrTampered {
				t.Errorf("%d: %v", i, a)
			}
		}
	}
}

// P16.1: a bin's number beyond the greatest that can be encoded is ErrSpace; without fresh blocks there is none.
func TestGreatestBin(t *testing.T) {
	r, _ := byHand(only(3, func(_ *hand, c *api.Commit) {
		c.Bins = append(c.Bins, api.Bin{Number: math.MaxInt32, At: 3, Count: 1})
	}))
	r.t = t
	r.mount()
	r.s.Do(write("a", 1, 1))
	if err := r.s.Flush(); err != api.OK {
		t.Errorf("%v", err)
	}
	r.bins([2]int{7, 2})
	was := r.seen()
	r.s.Do(write("a", 1, 9))
	for range 2 {
		r.flush(api.ErrSpace)
		r.collect(api.ErrSpace)
	}
	r.same(was, true)
	r.mount() // it was dropped
	r.s.Do(write("a", 1, 9))
	r.flush(api.OK)
	r.bins([2]int{7, 2}, [2]int{8, 1})
}

// P16.1: Mount changes nothing, neither the disk nor the cell, and needs no power.
func TestMountChangesNothing(t *testing.T) {
	r, _ := byHand(nothing)
	r.t = t
	r.d.Fuse(0)
	r.mount()
	was := r.seen()
	r.mount()
	r.same(was, true)
	r.d.Crash(nil) // nothing of it lasts
	r.noMount()
}
