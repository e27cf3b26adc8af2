package store_test

import (
	"math/rand/v2"
	"slices"
	"testing"

	"sporran/api"
	"sporran/bin"
	"sporran/disk"
	"sporran/slots"
	"sporran/store"
)

// wanted gives a store of some epochs, in whose bins are some blocks that nothing uses, and that has nothing which doesn't last.
func wanted(t *testing.T) *rig {
	r := newRig(t, 60)
	r.do(create("a", 9), write("a", 0, 1), write("a", 1, 2), write("a", 2, 3))
	r.flush(api.OK)
	r.do(snapshot("a", "s"), write("a", 1, 4), trim("a", 0), write("a", 5, 5))
	r.flush(api.OK)
	r.do(remove("s"), clone("a", "c", 4))
	r.flush(api.OK)
	return r
}

// reads reads all blocks: each is the model's, or ErrTampered, and behind that all are that. It tells whether one was.
func (r *rig) reads() bool {
	r.t.Helper()
	found := false
	was := r.seen()
	for _, v := range r.m.Images() {
		for _, b := range v.Blocks {
			a := r.s.Do(read(v.Name, b.Number))
			if found && a.Err != api.ErrTampered {
				r.t.Fatalf("%s %d: %v, behind ErrTampered", v.Name, b.Number, a)
			}
			found = a.Err == api.ErrTampered
			if found && (a.There || a.Block != api.Block{}) || !found && (!a.There || a.Block != b.Block) {
				r.t.Fatalf("%s %d: %v, not %v", v.Name, b.Number, a, b.Block)
			}
			if found != r.s.Tampered() {
				r.t.Fatalf("%s %d: %v, and Tampered: %v", v.Name, b.Number, a, r.s.Tampered())
			}
		}
	}
	if found {
		r.gone(was)
	}
	return found
}

// use tells what the bytes of a disk are for.
type use struct {
	lasts bool // Mount needs them
	read  bool // a block has them that is used
}

// uses gives this of each byte of the disk.
func (r *rig) uses() [][64]use {
	out := make([][64]use, r.d.Len())
	blob := func(ref api.Ref) {
		for i := range ref.Len {
			out[ref.At+i/64][i%64].lasts = true
		}
	}
	_, root := r.c.Get()
	commits := r.commits()
	ref, _ := slots.Find(r.d, root)
	for i := range out[0] {
		out[commits[0].Epoch%2][i].lasts = true
	}
	for _, c := range commits {
		blob(ref)
		ref = c.Prev
	}
	blob(commits[0].Volumes)
	blob(commits[0].Index)
	used := map[api.Block]int{}
	for _, v := range r.m.Images() {
		for _, b := range v.Blocks {
			used[b.Block]++
		}
	}
	for _, b := range commits[0].Bins {
		all, _ := bin.All(r.d, b)
		for slot, block := range all {
			for i := range block {
				out[b.At+slot][i].read = used[block] > 0
			}
		}
	}
	return out
}

// P16.1, P16.4: each byte of the disk is changed: Mount finds out just those that it needs, Read those of the blocks that are used.
func TestEachByte(t *testing.T) {
	r := wanted(t)
	uses, image := r.uses(), r.d.Image()
	var count [3]int
	for at := range image {
		for i := range 64 {
			s := image[at]
			s[i] ^= 1 << (i % 8)
			r.d.Set(at, s)
			switch u := uses[at][i]; {
			case u.lasts:
				r.noMount()
				count[0]++
			case u.read:
				r.mount()
				if !r.reads() {
					t.Errorf("sector %d, byte %d: nobody has found out", at, i)
				}
				r.mount() // it is the disk's fault, not this one's
				count[1]++
			default:
				r.mount()
				r.holds()
				count[2]++
			}
			r.d.Set(at, image[at])
		}
	}
	if count[0] < 1000 || count[1] != 3*48 || count[2] < 1000 {
		t.Errorf("%v", count)
	}
	r.mount()
	r.holds()
}

// The example 4 of the whole, P16.1: somebody changes a block: the next read of it tells ErrTampered, and so do all calls behind, also when it is put back.
func TestBlockIsChanged(t *testing.T) {
	r := newRig(t, 60)
	r.do(create("a", 9), write("a", 0, 1), write("a", 1, 2))
	r.flush(api.OK)
	other := 2 + boolInt(finger(block(1)) != digestAt(r, 2))
	s, _ := r.d.Read(other)
	s[0]++
	r.d.Set(other, s)
	r.do(read("a", 1), list(), write("a", 2, 7), read("a", 2))
	r.flush(api.OK)
	if r.s.Tampered() {
		t.Error("who hasn't read it doesn't know")
	}
	was := r.seen()
	if a := r.s.Do(read("a", 0)); a.Err != api.ErrTampered || a.There || a.Block != (api.Block{}) {
		t.Errorf("%v", a)
	}
	r.gone(was)
	s[0]--
	r.d.Set(other, s)
	r.gone(r.seen())
	r.mount()
	r.holds()
}

func boolInt(b bool) int {
	if b {
		return 1
	}
	return 0
}

// digestAt gives the fingerprint of what stands in a sector.
func digestAt(r *rig, at int) api.Digest {
	s, _ := r.d.Read(at)
	return finger(api.Block(s[:48]))
}

// P16.4: a block that is fresh is read whatever becomes of the disk, and is written as it was.
func TestFreshBlocksNeedNoDisk(t *testing.T) {
	r := newRig(t, 60)
	r.do(create("a", 9), write("a", 0, 1))
	r.d.Restore(filled(60, 255))
	r.holds()
	r.flush(api.OK)
	r.holds()
	r.mount()
	r.holds()
}

func filled(sectors int, with byte) []api.Sector {
	image := make([]api.Sector, sectors)
	for at := range image {
		for i := range image[at] {
			image[at][i] = with
		}
	}
	return image
}

// The example 5 of the whole: an image that is put back is mounted just as long as its epoch is the cell's.
func TestImagesComeBack(t *testing.T) {
	r := newRig(t, 400)
	r.do(create("a", 9))
	type past struct {
		image   []api.Sector
		counter uint64
	}
	var images []past
	for i := range 8 {
		r.do(write("a", i, byte(i)))
		counter, _ := r.c.Get()
		images = append(images, past{r.d.Image(), counter})
		if i%3 == 0 {
			r.collect(api.OK)
		} else {
			r.flush(api.OK)
		}
		counter, _ = r.c.Get()
		images = append(images, past{r.d.Image(), counter})
		is := r.d.Image()
		for _, p := range images {
			r.d.Restore(p.image)
			if p.counter != counter {
				r.noMount()
				continue
			}
			r.mount()
			r.holds()
		}
		r.d.Restore(is)
		r.mount()
	}
}

// P16.4: an image is put back under a store that is mounted: what it reads is right, or it is found out; so is what it flushes then.
func TestImagesComeBackBelow(t *testing.T) {
	for i := range 6 {
		r := newRig(t, 400)
		r.do(create("a", 9))
		r.flush(api.OK)
		images := [][]api.Sector{r.d.Image()}
		for k := range 5 {
			r.do(write("a", k, byte(1+k)), trim("a", max(k-2, 0)), write("a", 8, byte(50+k)))
			r.collect(api.OK)
			images = append(images, r.d.Image())
		}
		r.d.Restore(images[i])
		if found := r.reads(); found != (i < 5) {
			t.Errorf("image %d: found out: %v", i, found)
		}
		if i == 5 {
			continue
		}
		r.noMount()
		r.d.Restore(images[5])
		r.mount()
		r.d.Restore(images[i])
		r.do(write("a", 7, 99))
		r.flush(api.OK) // it reads nothing
		r.noMount()     // the commits ahead aren't there
		r.reads()
	}
}

// P16.1: a copy of a disk is as good as the disk, as long as the cell hasn't advanced.
func TestCopies(t *testing.T) {
	r := wanted(t)
	copied, _ := disk.New(60)
	copied.Restore(r.d.Image())
	s, err := store.Mount(copied, r.c)
	if err != api.OK {
		t.Fatalf("the copy: %v", err)
	}
	holds(t, s, r.m)
	r.do(write("a", 0, 1))
	r.flush(api.OK)
	if s, err := store.Mount(copied, r.c); s != nil || err != api.ErrTampered {
		t.Errorf("yesterday's copy: %v", err)
	}
	r.mount()
	r.holds()
}

// attack lets somebody change the disk.
func attack(d *disk.Disk, g *rand.Rand, images [][]api.Sector) {
	at, from := g.IntN(d.Len()), g.IntN(d.Len())
	image := d.Image()
	switch g.IntN(6) {
	case 0:
		s := image[at]
		s[g.IntN(64)] ^= 1 << g.IntN(8)
		d.Set(at, s)
	case 1: // another place's
		d.Set(at, image[from])
	case 2: // another time's
		d.Set(at, images[g.IntN(len(images))][at])
	case 3:
		d.Set(at, image[from])
		d.Set(from, image[at])
	case 4:
		d.Restore(images[g.IntN(len(images))])
	case 5: // a part of another time's
		old := images[g.IntN(len(images))]
		for i := range g.IntN(20) {
			if at+i < len(old) {
				d.Set(at+i, old[at+i])
			}
		}
	}
}

// siege is a store whose disk somebody changes.
type siege struct {
	*rig
	g            *rand.Rand
	images       [][]api.Sector
	ops, lasting []api.Op // what was done, and what of it lasts
	count        map[string]int
}

// op does an operation: the answer is the model's, or ErrTampered, which a Read finds out.
func (a *siege) op() {
	a.t.Helper()
	o := randomOp(a.g)
	if a.g.IntN(3) == 0 {
		o = read([]string{"a", "b"}[a.g.IntN(2)], a.g.IntN(6))
	}
	was := a.s.Tampered()
	got := a.s.Do(o)
	if a.s.Tampered() {
		if !was && o.Kind != api.OpRead || !sameAnswer(got, api.Answer{Err: api.ErrTampered}) {
			a.t.Fatalf("%v: %v, tampered", o, got)
		}
		a.count["tampered"]++
		return
	}
	if want := a.m.Do(o); !sameAnswer(got, want) {
		a.t.Fatalf("%v: %v, not %v", o, got, want)
	}
	if got.Err == api.OK {
		a.ops = append(a.ops, o)
	}
	if got.There {
		a.count["read"]++
	}
}

// flush flushes or collects.
func (a *siege) flush() {
	a.t.Helper()
	err := []func() api.Errno{a.s.Flush, a.s.Collect}[a.g.IntN(2)]()
	if (err == api.ErrTampered) != a.s.Tampered() {
		a.t.Fatalf("%v, and tampered: %v", err, a.s.Tampered())
	}
	if err == api.OK {
		a.lasting = slices.Clone(a.ops)
	}
	a.images = append(a.images, a.d.Image())
}

// mount mounts it again, and tells whether that was OK: then it has what lasted.
func (a *siege) mount() bool {
	a.t.Helper()
	s, err := store.Mount(a.d, a.c)
	if err != api.OK {
		if s != nil || err != api.ErrTampered {
			a.t.Fatalf("Mount: %v, %v", s, err)
		}
		a.count["not mounted"]++
		return false
	}
	a.s, a.ops, a.m = s, slices.Clone(a.lasting), replay(a.lasting)
	if got, want := a.s.Do(list()), a.m.Do(list()); !sameAnswer(got, want) {
		a.t.Fatalf("%v, not %v", got, want)
	}
	a.count["mounted"]++
	return true
}

// P16.4: whatever somebody does to the disk, between whatever operations: what is read is the model's, or ErrTampered, by all up to a Mount; and a Mount that is OK has what lasted.
func TestAttacks(t *testing.T) {
	count := map[string]int{}
	for seed := range uint64(600) {
		g := rand.New(rand.NewPCG(seed, 4))
		a := &siege{rig: newRig(t, 150), g: g, count: count}
		a.images = append(a.images, a.d.Image())
		lost := 0 // how often it wasn't mounted, one time behind the other
		for range 200 {
			switch k := g.IntN(60); {
			case k < 2:
				attack(a.d, g, a.images)
			case k < 5:
				a.flush()
			case k < 7:
				for lost = 0; lost < 10 && !a.mount(); lost++ {
					a.d.Restore(a.images[max(len(a.images)-1-g.IntN(3), 0)])
				}
			default:
				a.op()
			}
			if lost == 10 {
				break
			}
		}
	}
	for _, what := range []string{"mounted", "not mounted", "tampered", "read"} {
		if count[what] < 300 {
			t.Errorf("%s: %d times", what, count[what])
		}
	}
}
