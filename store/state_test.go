package store_test

import (
	"bytes"
	"math"
	"slices"
	"testing"

	"sporran/api"
	"sporran/commit"
	"sporran/pack"
	"sporran/proof"
)

func key(name string, number int) api.Digest {
	return tagged(7, []byte(name), pack.Number(nil, uint64(number)))
}

// shows asks that Prove shows, under the root that lasts, whether a block is there, and which one.
func (r *rig) shows(name string, number int, want api.Block, there bool) {
	r.t.Helper()
	_, root := r.s.State()
	nodes, err := r.s.Prove(name, number)
	if err != api.OK {
		r.t.Fatalf("Prove of %s %d: %v", name, number, err)
	}
	value, is, err := proof.Check(root, key(name, number), nodes)
	if err != api.OK || is != there {
		r.t.Errorf("%s %d: %v, %v", name, number, is, err)
	}
	if digest := finger(want); there && !bytes.Equal(value, digest[:]) {
		r.t.Errorf("%s %d: %v", name, number, value)
	}
}

// P16.2: State and Prove tell of what lasts, not of what was done since.
func TestStateAndProve(t *testing.T) {
	r := newRig(t, 200)
	r.do(create("a", 9), write("a", 1, 1), write("a", 2, 2))
	r.shows("a", 1, block(1), false)
	r.flush(api.OK)
	epoch, root := r.s.State()
	if epoch != 1 || root != r.last().State {
		t.Errorf("State: %d, %v", epoch, root)
	}
	r.do(snapshot("a", "s"), write("a", 1, 3), trim("a", 2), write("a", 4, 1))
	for range 2 {
		r.shows("a", 1, block(1), true)
		r.shows("a", 2, block(2), true)
		r.shows("a", 4, block(1), false)
		r.shows("s", 1, block(1), false)
		if e, same := r.s.State(); e != 1 || same != root {
			t.Errorf("State: %d, %v", e, same)
		}
		r.d.Fuse(0) // what doesn't last doesn't count
		r.flush(api.ErrDown)
	}
	r.d.Crash(nil)
	r.flush(api.OK)
	for range 2 {
		r.shows("a", 1, block(3), true)
		r.shows("a", 2, block(2), false)
		r.shows("a", 4, block(1), true)
		r.shows("s", 1, block(1), true)
		r.shows("s", 2, block(2), true)
		r.shows("none", 2, block(2), false)
		for _, number := range []int{-1, math.MinInt, math.MaxInt, api.MaxBlocks} {
			r.shows("a", number, block(2), false)
			r.shows("", number, block(2), false)
		}
		if epoch, root := r.s.State(); epoch != 2 || root != r.last().State {
			t.Errorf("State: %d, %v", epoch, root)
		}
		r.mount()
	}
}

// P16.2: Prove reads nothing of the disk, which may have become anything.
func TestProveNeedsNoDisk(t *testing.T) {
	r := newRig(t, 200)
	r.do(create("a", 9), write("a", 1, 1), write("a", 2, 2))
	r.flush(api.OK)
	r.d.Restore(make([]api.Sector, 200))
	r.shows("a", 1, block(1), true)
	r.shows("a", 3, block(1), false)
	r.counts(2, r.s.Room())
	if r.s.Tampered() {
		t.Error("tampered")
	}
}

// P16.2: Audit tells all commits, the last one first, each with the digest that the one behind it, or the cell, has.
func TestAudit(t *testing.T) {
	r := newRig(t, 900)
	r.do(create("a", 9))
	for epoch := range 20 {
		r.do(write("a", epoch%9, byte(epoch)))
		if epoch%7 == 3 {
			r.collect(api.OK)
		} else {
			r.flush(api.OK)
		}
	}
	for range 2 {
		rows, err := r.s.Audit()
		if err != api.OK || len(rows) != 20 {
			t.Fatalf("%d commits, %v", len(rows), err)
		}
		_, want := r.c.Get()
		for i, row := range rows {
			if tagged(3, row) != want {
				t.Errorf("commit %d: another digest", i)
			}
			c, err := commit.Decode(row)
			if err != api.OK || c.Epoch != uint64(20-i) {
				t.Errorf("commit %d: epoch %d, %v", i, c.Epoch, err)
			}
			want = c.Prev.Digest
		}
		r.do(write("a", 0, 99)) // what doesn't last isn't told
		again, _ := r.s.Audit()
		if !slices.EqualFunc(rows, again, bytes.Equal) {
			t.Error("another answer")
		}
		for _, row := range rows { // new memory
			clear(row)
		}
		third, _ := r.s.Audit()
		if !slices.EqualFunc(third, again, bytes.Equal) {
			t.Error("what is answered isn't new memory")
		}
		r.mount()
		r.m.Do(write("a", 0, 18)) // as it was ahead of what didn't last
		r.holds()
	}
}

// P16.2: Audit reads each commit; whichever was changed it is found out.
func TestAuditFindsOut(t *testing.T) {
	for epoch := range 4 {
		r := newRig(t, 300)
		r.do(create("a", 9))
		var refs []api.Ref
		for i := range 4 {
			r.do(write("a", i, byte(i)))
			r.flush(api.OK)
			refs = append(refs, r.last().Prev)
		}
		r.collect(api.OK)
		ref := append(refs[1:], r.last().Prev)[epoch]
		at := ref.At + ref.Len/64
		s, _ := r.d.Read(at)
		s[ref.Len%64] ^= 255 // the first byte behind the commit is nothing's
		r.d.Set(at, s)
		must(r.s.Audit())
		s[ref.Len%64-1] ^= 1
		r.d.Set(at, s)
		was := r.seen()
		if rows, err := r.s.Audit(); len(rows) > 0 || err != api.ErrTampered {
			t.Errorf("commit %d: %v, %v", epoch, rows, err)
		}
		r.gone(was)
		r.noMount()
	}
}

// P16.2: nodes that are answered are new memory.
func TestProveIsNewMemory(t *testing.T) {
	r := newRig(t, 100)
	r.do(create("a", 9), write("a", 1, 1), write("a", 2, 2), write("a", 3, 2))
	r.flush(api.OK)
	nodes, _ := r.s.Prove("a", 1)
	kept := make([][]byte, len(nodes))
	for i := range nodes {
		kept[i] = bytes.Clone(nodes[i])
		clear(nodes[i])
	}
	again, _ := r.s.Prove("a", 1)
	if len(again) == 0 || !slices.EqualFunc(again, kept, bytes.Equal) {
		t.Errorf("%v, not %v", again, kept)
	}
}

// P16.2: Stored counts all blocks of the bins, also those that nothing uses any more; Room all sectors that aren't taken.
func TestStoredAndRoom(t *testing.T) {
	r := newRig(t, 100)
	r.do(create("a", 9), create("b", 9), write("a", 0, 1), write("a", 1, 2), write("b", 0, 1))
	r.counts(0, 98)
	r.flush(api.OK)
	// The slots; two blocks; volumes of 108 and an index of 71 bytes; a commit.
	taken := 2 + 2 + 2 + 2 + need(len(must(r.s.Audit())[0]))
	r.counts(2, 100-taken)
	r.do(trim("a", 1), write("a", 3, 7), write("a", 4, 8))
	r.counts(2, 100-taken)
	r.flush(api.OK)
	commits := taken - 6 + need(len(must(r.s.Audit())[0]))
	r.counts(4, 100-commits-4-3-2) // volumes of 142, an index of 106 bytes
	r.mount()
	r.counts(4, 100-commits-4-3-2)
	r.do(remove("a"), remove("b"))
	r.counts(4, 100-commits-4-3-2)
	r.flush(api.OK)
	commits += need(len(must(r.s.Audit())[0]))
	r.counts(0, 100-commits-2)
}
