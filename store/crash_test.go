package store_test

import (
	"math/rand/v2"
	"slices"
	"testing"

	"sporran/api"
	"sporran/model"
)

// somePicks are ways in which writes that don't last yet may come through a crash.
func somePicks() [][]byte {
	picks := [][]byte{nil, {0}, {1}, {2}, {62}, {1, 0}, {0, 1}, {0, 0, 1}, {1, 1, 2}, {2, 5, 8, 11, 14, 17, 20, 23}, {255, 254, 253, 252}}
	g := rand.New(rand.NewPCG(16, 3))
	for range 6 {
		picks = append(picks, append(randomPicks(g), byte(g.Uint32())))
	}
	return picks
}

// replay gives the model behind some operations.
func replay(ops ...[]api.Op) *model.Model {
	m := model.New()
	for _, o := range slices.Concat(ops...) {
		m.Do(o)
	}
	return m
}

// P16.3: wherever the power goes within a Flush or a Collect, and whatever comes through of what was written: it is as it was, or, as the cell has advanced, as it was to be.
func TestPowerGoes(t *testing.T) {
	first := []api.Op{create("a", 9), write("a", 0, 1), write("a", 1, 2), write("a", 2, 3), snapshot("a", "s")}
	second := []api.Op{write("a", 0, 4), trim("a", 2), remove("s"), create("b", 3), write("b", 7, 2)}
	for _, collect := range []bool{false, true} {
		advanced := 0
		for n := range 30 {
			for _, picks := range somePicks() {
				r := newRig(t, 80)
				r.do(first...)
				r.flush(api.OK)
				r.do(second...)
				was := r.seen()
				r.d.Fuse(n)
				call, want := r.s.Flush, api.ErrDown
				if collect {
					call = r.s.Collect
				}
				err := call()
				counter, _ := r.c.Get()
				if err == api.OK {
					want = api.OK
					advanced++
				}
				if err != want || r.d.Dead() != (err != api.OK) || counter == 2 != (err == api.OK) {
					t.Fatalf("power for %d: %v, the counter %d", n, err, counter)
				}
				r.holds() // up to the crash, and, if nobody mounts it again, behind it
				r.d.Crash(picks)
				r.holds()
				r.mount()
				if counter == 1 {
					r.m = replay(first)
					r.same(was, false)
				}
				r.holds()
				r.do(write("a", 8, 9), write("a", 0, 4)) // it goes on
				r.flush(api.OK)
				r.collect(api.OK)
				r.mount()
				r.holds()
			}
		}
		if advanced == 0 || advanced == 30*len(somePicks()) {
			t.Errorf("%d times the cell advanced", advanced)
		}
	}
}

// P16.1: the power that is needed: one for each sector, and three more, two syncs and the slot; with just so much it is gone behind all.
func TestPowerThatIsNeeded(t *testing.T) {
	for _, more := range []int{-1, 0, 1, 2} {
		r := newRig(t, 60)
		r.do(create("a", 5), write("a", 3, 9))
		sectors := 1 + 1 + 1 + need(234) // a block, volumes, an index, a commit
		r.d.Fuse(sectors + 3 + more)
		if more < 1 {
			r.flush(api.ErrDown)
			r.counts(0, 58)
			r.d.Crash(nil)
			r.flush(api.OK)
		} else {
			r.flush(api.OK)
		}
		if length := len(must(r.s.Audit())[0]); length != 234 {
			t.Fatalf("a commit of %d bytes", length)
		}
		r.counts(1, 58-sectors)
		r.mount()
		r.holds()
	}
}

// P16.3: a crash of a disk to which the power went in one Flush after another, with other operations between, which nobody mounted again.
func TestPowerGoesAgain(t *testing.T) {
	for n := range 6 {
		for _, picks := range somePicks() {
			r := newRig(t, 120)
			r.do(create("a", 9), write("a", 0, 1))
			r.flush(api.OK)
			lasting := []api.Op{create("a", 9), write("a", 0, 1)}
			for i := range 4 {
				r.do(write("a", i, byte(10+n+i)), trim("a", i+1))
				r.d.Fuse(n + i)
				r.flush(api.ErrDown)
				if i%2 == 0 {
					r.d.Crash(picks)
				}
				r.holds()
			}
			r.d.Crash(picks)
			kept := r.m
			old := r.s
			r.m = replay(lasting)
			r.mount()
			r.holds()
			r.m, r.s = kept, old
			r.flush(api.OK)
			r.mount()
			r.holds()
		}
	}
}

// P16.3: behind a crash without a Flush it is as it was.
func TestCrashWithoutFlush(t *testing.T) {
	for _, picks := range somePicks() {
		r := newRig(t, 60)
		r.do(create("a", 9), write("a", 0, 1))
		r.flush(api.OK)
		for _, o := range []api.Op{write("a", 0, 2), create("b", 1)} {
			r.s.Do(o)
		}
		r.d.Crash(picks)
		r.mount()
		r.holds()
	}
}

// P16.3: all answers are the model's, also of a store that is as great as may be, flush behind flush, crash behind crash.
func TestLongRun(t *testing.T) {
	r := newRig(t, api.MaxSectors)
	g := rand.New(rand.NewPCG(16, 9))
	var ops, lasting []api.Op
	for i := range 400 {
		for range g.IntN(20) {
			o := randomOp(g)
			if r.both(o).Err == api.OK {
				ops = append(ops, o)
			}
		}
		switch g.IntN(6) {
		case 0, 1, 2:
			r.flush(api.OK)
			lasting = slices.Clone(ops)
		case 3:
			r.collect(api.OK)
			lasting = slices.Clone(ops)
		case 4:
			r.d.Fuse(g.IntN(6))
			if len(ops) > len(lasting) {
				r.s.Flush()
			}
			r.d.Crash(randomPicks(g))
			ops = slices.Clone(lasting)
			r.m = replay(ops)
			r.mount()
		}
		if i%40 == 0 {
			r.holds()
		}
	}
	r.holds()
	if r.s.Stored() < r.m.Distinct()-20 {
		t.Errorf("%d blocks", r.s.Stored())
	}
}
