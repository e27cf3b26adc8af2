package store_test

import (
	"bytes"
	"slices"
	"strings"
	"testing"

	"sporran/api"
	"sporran/model"
)

// sectors lays rows of bytes, each from a sector of its own on.
func sectors(rows ...[]byte) []api.Sector {
	var out []api.Sector
	for _, b := range rows {
		for ; len(b) > 64; b = b[64:] {
			out = append(out, api.Sector(b[:64]))
		}
		var s api.Sector
		copy(s[:], b)
		out = append(out, s)
	}
	return out
}

// The chapter's example: Create, Write, Flush; Mount: Read tells the block.
func TestExample(t *testing.T) {
	r := newRig(t, 30)
	r.do(create("a", 5), write("a", 3, 9))
	r.flush(api.OK)
	r.mount()
	if a := r.s.Do(read("a", 3)); a.Err != api.OK || !a.There || a.Block != block(9) {
		t.Errorf("%v", a)
	}
	r.holds()
}

// P16.1: what a first Flush writes, said byte by byte.
func TestFirstFlushByHand(t *testing.T) {
	r := newRig(t, 30)
	r.do(create("a", 5), write("a", 3, 9))
	r.flush(api.OK)

	b := block(9)
	digest := finger(b)
	row := append(b[:], make([]byte, 16)...)
	volumes := slices.Concat([]byte{1, 1, 'a', 10, 1, 3}, digest[:])
	index := slices.Concat([]byte{1}, digest[:], []byte{1, 0, 1})
	key := tagged(7, []byte("a"), []byte{3})
	var rest []byte
	for _, x := range key {
		rest = append(rest, x>>4, x&15)
	}
	leaf := slices.Concat([]byte{0, 64}, rest, []byte{32}, digest[:])
	state := tagged(4, leaf)
	root := tagged(0, b[:])
	volumesDigest, indexDigest := tagged(3, volumes), tagged(3, index)
	created := []byte{1, 0, 5, 1, 'a', 0}
	written := slices.Concat([]byte{3, 3, 0, 1, 'a', 0}, b[:])
	commit := slices.Concat([]byte{1}, make([]byte, 34), volumesDigest[:], []byte{3, 38}, indexDigest[:], []byte{4, 36},
		[]byte{1, 0, 2, 1}, root[:], state[:], []byte{2, 6}, created, []byte{54}, written)
	digest = tagged(3, commit)
	slot := slices.Concat([]byte{1}, digest[:], []byte{5, byte(len(commit)%128) | 128, byte(len(commit) / 128)})

	want := sectors(nil, slot, row, volumes, index, commit)
	taken := len(want)
	want = append(want, make([]api.Sector, 30-taken)...)
	for at, s := range r.d.Image() {
		if s != want[at] {
			t.Errorf("sector %d: %v, not %v", at, s, want[at])
		}
	}
	if counter, root := r.c.Get(); counter != 1 || root != digest {
		t.Errorf("the cell: %d, %v", counter, root)
	}
	if epoch, root := r.s.State(); epoch != 1 || root != state {
		t.Errorf("State: %d, %v", epoch, root)
	}
	r.counts(1, 30-taken)
	r.d.Crash(nil) // all of it lasts already
	if !slices.Equal(r.d.Image(), want) {
		t.Error("not all was synced")
	}
}

// P16.1: where all is laid, Flush behind Flush: the least place each, of what was free ahead of the Flush.
func TestWhereItIsLaid(t *testing.T) {
	r := newRig(t, 60)
	at := func(volumes, index, commit int) {
		t.Helper()
		c := r.last()
		told, _ := r.d.Read(int(c.Epoch % 2)) // a digest, and where the commit is
		if c.Volumes.At != volumes || c.Index.At != index || int(told[33]) != commit {
			t.Errorf("epoch %d: %d, %d, %d, not %d, %d, %d", c.Epoch, c.Volumes.At, c.Index.At, told[33], volumes, index, commit)
		}
	}
	r.do(create("a", 5), write("a", 0, 1), write("a", 1, 2))
	r.flush(api.OK) // the bin 0 at 2, 3; volumes of 71 bytes
	at(4, 6, 8)
	length := need(len(must(r.s.Audit())[0]))
	first := 8 + length
	r.counts(2, 60-first)

	r.do(trim("a", 0))
	r.flush(api.OK) // one sector each; behind it 4 to 7 are free
	at(first, first+1, first+2)
	second := first + 2 + need(len(must(r.s.Audit())[0]))
	r.counts(2, 60-second+4)
	r.bins([2]int{0, 2})

	r.do(trim("a", 1)) // behind it the bin isn't there, nor what stands at first and first + 1
	r.flush(api.OK)
	at(4, 5, second)
	third := second + need(len(must(r.s.Audit())[0]))
	r.counts(0, 60-third+2+2+2) // 2, 3; 6, 7; first, first + 1
	r.bins()

	r.do(write("a", 0, 3), write("a", 1, 4), write("a", 2, 5))
	r.flush(api.OK) // nowhere ahead of third are 3 free ones
	if b := r.last().Bins; len(b) != 1 || b[0].At != third || b[0].Number != 1 {
		t.Errorf("%v", b)
	}
	at(2, 6, third+3) // volumes of two sectors, an index of two
	r.mount()
	r.holds()
}

func must(rows [][]byte, err api.Errno) [][]byte {
	if err != api.OK {
		panic(err)
	}
	return rows
}

// P16.1: the blocks of a bin stand rising by their fingerprints, whatever their order was.
func TestBlocksRise(t *testing.T) {
	r := newRig(t, 200)
	r.do(create("a", 50))
	var want []api.Block
	for i := range 40 {
		r.do(write("a", i, byte(i)))
		want = append(want, block(byte(i)))
	}
	r.flush(api.OK)
	slices.SortFunc(want, func(a, b api.Block) int {
		x, y := finger(a), finger(b)
		return bytes.Compare(x[:], y[:])
	})
	for i, b := range want {
		if s, _ := r.d.Read(2 + i); api.Block(s[:48]) != b {
			t.Errorf("sector %d: %v", 2+i, s)
		}
	}
	r.holds()
}

// P16.1: a Flush without events does nothing at all.
func TestNothingToFlush(t *testing.T) {
	r := newRig(t, 30)
	r.d.Fuse(1)
	was := r.seen()
	r.flush(api.OK)
	for _, o := range []api.Op{list(), read("a", 0), write("a", 0, 1), trim("a", 0), remove("a"), create("", 1), create("a", -1), {Kind: 9}, clone("a", "b", 1)} {
		r.both(o)
	}
	r.flush(api.OK)
	r.same(was, true)
	if r.d.Dead() {
		t.Error("something was synced")
	}
	r.d.Crash(nil)
	r.do(create("a", 1))
	r.flush(api.OK)
	was = r.seen()
	r.flush(api.OK)
	r.do(read("a", 0), list())
	r.flush(api.OK)
	r.same(was, true)
	r.d.Fuse(0) // also without power
	r.flush(api.OK)
}

// P16.1: each operation that is answered OK and changes something is an event, in order, also where nothing is another than it was.
func TestEvents(t *testing.T) {
	r := newRig(t, 200)
	ops := []api.Op{
		create("a", 3), write("a", 0, 1), write("a", 0, 1), trim("a", 2), snapshot("a", "s"), clone("a", "c", 7), remove("s"), trim("a", 0), trim("a", 0),
		{Kind: api.OpTrim, Name: "c", Other: "nothing's", Number: 9, Quota: -3, Block: block(9)},
	}
	var want [][]byte
	for i, o := range ops {
		r.do(o)
		want = append(want, model.Event(o))
		r.both(read("a", i))
		r.both(list())
		r.both(write("a", -1, 1))
		r.both(create("a", 3))
	}
	r.flush(api.OK)
	r.do(create("b", 1))
	r.collect(api.OK)
	r.collect(api.OK)
	c := r.commits()
	if len(c) != 3 || !slices.EqualFunc(c[2].Events, want, bytes.Equal) {
		t.Fatalf("%v", c)
	}
	if e := c[1].Events; len(e) != 2 || !bytes.Equal(e[0], model.Event(create("b", 1))) || !bytes.Equal(e[1], []byte{0}) {
		t.Errorf("%v", e)
	}
	if e := c[0].Events; len(e) != 1 || !bytes.Equal(e[0], []byte{0}) {
		t.Errorf("%v", e)
	}
}

// P16.1: what isn't flushed is gone behind a Mount: volumes, blocks, uses and events.
func TestMountForgets(t *testing.T) {
	r := newRig(t, 100)
	r.do(create("a", 3), write("a", 0, 1))
	r.flush(api.OK)
	was := r.seen()
	for _, o := range []api.Op{write("a", 0, 2), write("a", 1, 1), clone("a", "b", 3), trim("a", 1)} {
		if a := r.s.Do(o); a.Err != api.OK {
			t.Errorf("%v: %v", o, a)
		}
	}
	r.mount()
	r.same(was, true)
	r.holds()
	r.flush(api.OK) // nothing
	r.same(was, true)
	r.do(trim("a", 0)) // it was used once
	r.flush(api.OK)
	r.counts(0, r.s.Room())
}

// P16.1: the numbers of bins: 0 at first, then one more than the greatest that there is or was dropped since the Mount.
func TestBinNumbers(t *testing.T) {
	r := newRig(t, 400)
	r.do(create("a", 9), create("b", 9))
	r.flush(api.OK)
	r.bins()
	for i := range 4 {
		r.do(write("a", i, byte(1+i)))
		r.flush(api.OK)
	}
	r.bins([2]int{0, 1}, [2]int{1, 1}, [2]int{2, 1}, [2]int{3, 1})
	r.do(trim("a", 2), trim("a", 3))
	r.flush(api.OK) // 2 and 3 are dropped
	r.bins([2]int{0, 1}, [2]int{1, 1})
	r.do(write("a", 4, 5))
	r.flush(api.OK)
	r.bins([2]int{0, 1}, [2]int{1, 1}, [2]int{4, 1})
	r.do(trim("a", 4))
	r.flush(api.OK)
	r.mount() // now nobody knows of 2 to 4
	r.do(write("a", 5, 6))
	r.flush(api.OK)
	r.bins([2]int{0, 1}, [2]int{1, 1}, [2]int{2, 1})
	r.do(trim("a", 0), trim("a", 1), trim("a", 5), write("a", 6, 7)) // in one Flush: all are dropped, and one comes
	r.flush(api.OK)
	r.bins([2]int{3, 1})
	r.do(remove("a"))
	r.flush(api.OK)
	r.bins()
	r.mount()
	r.do(write("b", 0, 1))
	r.flush(api.OK)
	r.bins([2]int{0, 1})
	r.holds()
}

// P16.1: a bin that a Flush without room would have dropped wasn't.
func TestNumbersBehindNoRoom(t *testing.T) {
	r := newRig(t, 400)
	r.do(create("a", 9), write("a", 0, 1))
	r.flush(api.OK)
	r.do(api.Op{Kind: api.OpTrim, Name: "a", Number: 1, Other: strings.Repeat("x", 1<<16)}, write("a", 1, 2))
	for range 3 {
		r.flush(api.ErrSpace)
		r.collect(api.ErrSpace)
	}
	r.mount()
	r.m.Do(trim("a", 1))
	r.do(write("a", 2, 3))
	r.flush(api.OK)
	r.bins([2]int{0, 1}, [2]int{1, 1})
	r.d.Fuse(3)
	r.do(write("a", 3, 4))
	r.flush(api.ErrDown)
	r.d.Crash(nil)
	r.flush(api.OK)
	r.bins([2]int{0, 1}, [2]int{1, 1}, [2]int{2, 1})
	r.holds()
}

// P16.1: a block that is used stands once, wherever it is used; one that isn't used any more is gone, and comes back as a fresh one.
func TestUses(t *testing.T) {
	r := newRig(t, 300)
	r.do(create("a", 9), create("b", 9), write("a", 0, 1), write("b", 7, 1), write("b", 8, 1))
	r.flush(api.OK)
	r.bins([2]int{0, 1})
	r.do(trim("a", 0), write("b", 8, 2), write("b", 7, 1)) // still used once
	r.flush(api.OK)
	r.bins([2]int{0, 1}, [2]int{1, 1})
	r.do(write("b", 7, 3), write("b", 7, 1)) // used nowhere between: it stands in the bin 0, but nobody knows; 3 is gone again
	r.flush(api.OK)
	r.bins([2]int{1, 1}, [2]int{2, 1})
	r.do(snapshot("b", "s"), clone("s", "c", 9), remove("b"), remove("s"))
	r.flush(api.OK)
	r.bins([2]int{1, 1}, [2]int{2, 1})
	r.holds()
	r.do(trim("c", 7))
	r.flush(api.OK)
	r.bins([2]int{1, 1})
	r.do(remove("c"))
	r.flush(api.OK)
	r.bins()
	r.counts(0, r.s.Room())
	r.holds()
}

// P16.1: a block that is written in its own place again is used all the while: it keeps its place.
func TestWrittenAgain(t *testing.T) {
	r := newRig(t, 100)
	r.do(create("a", 9), write("a", 0, 1))
	r.flush(api.OK)
	r.do(write("a", 0, 1))
	r.flush(api.OK)
	r.bins([2]int{0, 1})
	r.do(write("a", 1, 2), write("a", 1, 2), write("a", 1, 3)) // 2 was fresh, and is gone
	r.flush(api.OK)
	r.bins([2]int{0, 1}, [2]int{1, 1})
	r.holds()
}

// P16.1: on each disk that hasn't room for all that is laid it is ErrSpace, and nothing has changed; on the others it is OK.
func TestNoRoom(t *testing.T) {
	needs := 2 + 2 + 2 + 2 // slots, blocks, volumes, index
	for sectors := 3; sectors < 20; sectors++ {
		r := newRig(t, sectors)
		r.do(create("a", 5), write("a", 3, 9), write("a", 4, 8))
		was := r.seen()
		if sectors < needs+5 { // its commit has 289 bytes
			r.flush(api.ErrSpace)
			r.collect(api.ErrSpace)
			r.flush(api.ErrSpace)
			r.same(was, true)
			r.holds()
			r.do(write("a", 5, 7)) // it goes on
			r.holds()
			continue
		}
		r.flush(api.OK)
		if length := len(must(r.s.Audit())[0]); length != 289 {
			t.Fatalf("%d bytes", length)
		}
		r.counts(2, sectors-needs-5)
		r.mount()
		r.holds()
	}
}

// P16.1: more fresh blocks than there is room for.
func TestNoRoomForBlocks(t *testing.T) {
	r := newRig(t, 100)
	r.do(create("a", 1000))
	r.flush(api.OK)
	was := r.seen()
	for i := range 120 {
		r.do(write("a", i, byte(i)))
	}
	r.flush(api.ErrSpace)
	r.same(was, true)
	r.holds()
	r.mount()
	r.m = model.New()
	r.m.Do(create("a", 1000))
	r.holds()
}

// P16.1: volumes of just MaxBlob bytes are flushed, of one more not.
func TestVolumesBytes(t *testing.T) {
	r := newRig(t, 60000)
	most := strings.Repeat("a", api.MaxName)
	r.do(create(most, 5000))
	size := 1 + 21 + 2 + 2     // how many volumes; its name, its quota, how many blocks
	for number := range 1930 { // 33 bytes each, of a number from 128 on 34
		r.do(write(most, number, 1))
		size += 33
		if number >= 128 {
			size++
		}
		if number%800 == 799 {
			r.flush(api.OK)
		}
	}
	left := 65536 - size
	if left < 4 || left > 22 {
		t.Fatalf("%d bytes left", left)
	}
	r.flush(api.OK)
	name := strings.Repeat("n", left-3)
	r.do(create(name, 0)) // its name, quota, and no blocks
	r.flush(api.OK)
	if c := r.last(); c.Volumes.Len != 65536 {
		t.Errorf("%d bytes", c.Volumes.Len)
	}
	r.mount()
	was := r.seen()
	r.do(remove(name), create(name+"n", 0))
	r.flush(api.ErrSpace)
	r.collect(api.ErrSpace)
	r.same(was, true)
	r.do(remove(name + "n"))
	r.flush(api.OK)
	r.holds()
}

// P16.1: an index of more than MaxBlob bytes isn't flushed.
func TestIndexBytes(t *testing.T) {
	r := newRig(t, 60000)
	r.do(create("a", 5000))
	put := func(from, to int) {
		for number := from; number < to; number++ {
			r.do(api.Op{Kind: api.OpWrite, Name: "a", Number: number, Block: api.Block{byte(number), byte(number >> 8), 1}})
		}
	}
	put(0, 900)
	r.flush(api.OK)
	put(900, 1800)
	r.flush(api.OK)
	if c := r.last(); c.Index.Len < 64000 || c.Volumes.Len > 62000 {
		t.Fatalf("%d, %d bytes", c.Index.Len, c.Volumes.Len)
	}
	was := r.seen()
	put(1800, 1850)
	r.flush(api.ErrSpace)
	r.same(was, true)
	r.do(trim("a", 0))
	for number := 1800; number < 1850; number++ {
		r.do(trim("a", number))
	}
	r.flush(api.OK)
	r.holds()
}

// P16.1: a commit of just MaxBlob bytes is flushed, of one more not; a Collect's has two bytes more.
func TestCommitBytes(t *testing.T) {
	sizes := map[int]api.Errno{65534: api.OK, 65535: api.OK, 65536: api.OK, 65537: api.ErrSpace, 65538: api.ErrSpace, 1 << 20: api.ErrSpace}
	for size, want := range sizes {
		for _, collect := range []bool{false, true} {
			r := newRig(t, 3000)
			r.do(create("a", 1))
			r.flush(api.OK)
			was := r.seen()
			event := api.Op{Kind: api.OpTrim, Name: "a"}
			// The epoch, three Refs, no bins, the state; one event, its three numbers and two texts.
			overhead := 1 + 3*34 + 1 + 32 + 1 + 3 + 3 + 2 + 3
			if len(must(r.s.Audit())[0]) > 127 { // of all numbers of the Refs this one alone
				overhead++
			}
			if collect {
				overhead += 2
			}
			event.Other = strings.Repeat("x", size-overhead)
			r.do(event)
			if collect {
				r.collect(want)
			} else {
				r.flush(want)
			}
			if want != api.OK {
				r.same(was, true)
				continue
			}
			if got := len(must(r.s.Audit())[0]); got != size {
				t.Errorf("%d bytes, not %d", got, size)
			}
			r.mount()
			r.holds()
		}
	}
}
