package store_test

import (
	"slices"
	"testing"

	"sporran/api"
)

// P16.1: blocks that nothing uses are gone from bins of which others are used; all else stays.
func TestCollect(t *testing.T) {
	r := newRig(t, 400)
	r.do(create("a", 20))
	for i := range 12 {
		r.do(write("a", i, byte(1+i)))
		if i%4 == 3 {
			r.flush(api.OK)
		}
	}
	r.bins([2]int{0, 4}, [2]int{1, 4}, [2]int{2, 4})
	r.do(trim("a", 0), trim("a", 3), trim("a", 9)) // of the bins 0 and 2
	r.flush(api.OK)
	r.bins([2]int{0, 4}, [2]int{1, 4}, [2]int{2, 4})
	_, root := r.s.State()
	r.do(write("a", 15, 99))
	r.collect(api.OK)
	r.bins([2]int{1, 4}, [2]int{3, 2 + 3 + 1})
	r.counts(10, r.s.Room())
	r.holds()
	_, other := r.s.State()
	if root == other {
		t.Error("the state")
	}
	r.collect(api.OK) // nothing to collect
	r.bins([2]int{1, 4}, [2]int{3, 6})
	if _, same := r.s.State(); same != other {
		t.Error("a Collect changes the state")
	}
	r.mount()
	r.holds()
	r.do(trim("a", 4), trim("a", 5), trim("a", 6), trim("a", 7))
	r.collect(api.OK) // the bin 1 has none that is used: no new bin is needed
	r.bins([2]int{3, 6})
	r.holds()
}

// P16.1: blocks that are moved stand with the fresh ones, rising by their fingerprints, at the least place; what they were at is free behind the Collect.
func TestWhereItIsCollected(t *testing.T) {
	r := newRig(t, 100)
	r.do(create("a", 20), write("a", 0, 1), write("a", 1, 2), write("a", 2, 3))
	r.flush(api.OK)
	room := r.s.Room()
	r.do(trim("a", 1), write("a", 3, 4))
	r.collect(api.OK)
	c := r.commits()
	b := c[0].Bins
	if len(b) != 1 || b[0].Number != 1 || b[0].Count != 3 || b[0].At != 100-room {
		t.Fatalf("%v, not at %d", b, 100-room)
	}
	var last api.Digest
	for i := range 3 {
		s, _ := r.d.Read(b[0].At + i)
		next := finger(api.Block(s[:48]))
		if slices.Compare(last[:], next[:]) >= 0 {
			t.Error("they don't rise")
		}
		last = next
	}
	length := len(must(r.s.Audit())[0])
	r.counts(3, room-need(length)) // as many blocks, volumes and index of the same sizes
	r.holds()
	r.mount()
	r.holds()
}

// P16.1: a Collect is a Flush also without events, even of a store in which nothing ever was.
func TestCollectNothing(t *testing.T) {
	r := newRig(t, 100)
	for epoch := uint64(1); epoch < 5; epoch++ {
		r.collect(api.OK)
		c := r.last()
		if c.Epoch != epoch || len(c.Events) != 1 || len(c.Events[0]) != 1 || c.Events[0][0] != 0 || len(c.Bins) != 0 || c.State != tagged(5) {
			t.Errorf("%v", c)
		}
		if got, root := r.s.State(); got != epoch || root != tagged(5) {
			t.Errorf("State: %d, %v", got, root)
		}
	}
	r.flush(api.OK) // the event was told
	if epoch, _ := r.s.State(); epoch != 4 {
		t.Errorf("epoch %d", epoch)
	}
	r.mount()
	r.holds()
}

// P16.1: a Collect reads what it moves; a block that isn't what it was is found out, ahead of any lack of room.
func TestCollectFindsOut(t *testing.T) {
	for _, unused := range []bool{true, false} {
		for slot := range 3 {
			r := newRig(t, 17) // a Collect hasn't room
			r.do(create("a", 20), write("a", 0, 1), write("a", 1, 2), write("a", 2, 3))
			r.flush(api.OK)
			s, _ := r.d.Read(2 + slot)
			gone := api.Block(s[:48])
			for i := range 3 {
				if a := r.both(read("a", i)); (a.Block == gone) == unused {
					r.do(trim("a", i)) // the one that is changed, or the others
				}
			}
			s[47]++
			r.d.Set(2+slot, s)
			was := r.seen()
			if !unused {
				r.collect(api.ErrTampered)
				r.gone(was)
				continue
			}
			r.collect(api.ErrSpace) // nobody asks for the block that is gone
			r.same(was, true)
			r.holds()
		}
	}
}

// P16.1: bins of which all blocks are used aren't read; what is changed there isn't found out by a Collect.
func TestCollectReadsNoMore(t *testing.T) {
	r := newRig(t, 100)
	r.do(create("a", 20), write("a", 0, 1), write("a", 1, 2))
	r.flush(api.OK)
	r.do(write("a", 2, 3), write("a", 3, 4))
	r.flush(api.OK)
	bins := r.last().Bins
	r.d.Set(bins[0].At, api.Sector{})
	r.do(trim("a", 2))
	r.collect(api.OK)
	r.bins([2]int{0, 2}, [2]int{2, 1})
	one, two := r.s.Do(read("a", 0)), r.s.Do(read("a", 1))
	if one.Err != api.ErrTampered && two.Err != api.ErrTampered {
		t.Errorf("%v, %v", one, two)
	}
}

// P16.1: with ErrSpace and ErrDown nothing has changed: no bin is dropped, no block moved, no event told.
func TestCollectFails(t *testing.T) {
	r := newRig(t, 30)
	r.do(create("a", 20), write("a", 0, 1), write("a", 1, 2), write("a", 2, 3))
	r.flush(api.OK)
	r.do(trim("a", 1))
	was := r.seen()
	for n := range 12 {
		r.d.Fuse(n)
		r.collect(api.ErrDown)
		r.same(was, false)
		r.d.Crash([]byte{1, 0, 2})
		r.same(was, false)
		r.holds()
	}
	r.collect(api.OK)
	if e := r.last().Events; len(e) != 2 || len(e[1]) != 1 {
		t.Errorf("%v", e)
	}
	r.bins([2]int{1, 2})
	r.holds()
	for range 10 {
		r.s.Collect()
	}
	was = r.seen()
	r.collect(api.ErrSpace)
	r.same(was, true)
	r.mount()
	r.same(was, true)
	r.holds()
}
