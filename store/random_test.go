package store_test

import (
	"math/rand/v2"
	"slices"
	"sync"
	"testing"

	"sporran/api"
)

// randomOp gives one that is often OK, with fields that are nothing to it.
func randomOp(r *rand.Rand) api.Op {
	kinds := []int{1, 1, 2, 3, 3, 3, 3, 3, 3, 3, 4, 4, 4, 5, 5, 5, 6, 7, 8, 0, 9}
	names := []string{"a", "a", "a", "a", "b", "b", "c", "d", " "}
	return api.Op{
		Kind:   kinds[r.IntN(len(kinds))],
		Name:   names[r.IntN(len(names))],
		Other:  names[r.IntN(len(names))],
		Number: []int{0, 1, 2, 3, 4, 5, 128, api.MaxBlocks - 1, api.MaxBlocks, -1}[r.IntN(10)],
		Quota:  []int{-1, 1, 2, 3, 5, 8, 8, api.MaxBlocks, api.MaxBlocks + 1}[r.IntN(9)],
		Block:  block(byte(r.IntN(9))),
	}
}

func randomPicks(r *rand.Rand) []byte {
	picks := make([]byte, r.IntN(9))
	for i := range picks {
		picks[i] = byte(r.Uint32())
	}
	return picks
}

// step lets one thing happen to the store and to the plain one. Nobody else changes the disk.
func (r *rig) step(p *plain, g *rand.Rand, count map[api.Errno]int) {
	r.t.Helper()
	compare := func(got, want api.Errno) {
		r.t.Helper()
		count[got]++
		if got != want {
			r.t.Fatalf("%v, not %v", got, want)
		}
	}
	switch k := g.IntN(100); {
	case k < 70:
		o := randomOp(g)
		got, want := r.s.Do(o), p.do(o)
		if !sameAnswer(got, want) {
			r.t.Fatalf("%v: %v, not %v", o, got, want)
		}
	case k < 80:
		compare(r.s.Flush(), p.flush(false))
	case k < 85:
		compare(r.s.Collect(), p.flush(true))
	case k < 90:
		n := g.IntN(30) - 1
		r.d.Fuse(n)
		p.disk.Fuse(n)
	case k < 94:
		picks := randomPicks(g)
		r.d.Crash(picks)
		p.disk.Crash(picks)
		if g.IntN(4) > 0 { // one that isn't mounted again goes on
			r.mount()
			p.mount()
		}
	case k < 97:
		r.mount()
		p.mount()
	default:
		r.m = p.model
		r.holds()
		r.audits(p)
	}
}

// P16.1, P16.2, P16.3: whatever is done, in whatever order, wherever the power goes: answers, disk and cell are as the plain store tells.
func TestAgainstPlain(t *testing.T) {
	count := map[api.Errno]int{}
	for seed := range uint64(120) {
		g := rand.New(rand.NewPCG(seed, 16))
		sectors := 3 + g.IntN(300)
		r, p := newRig(t, sectors), newPlain(sectors)
		for range 250 {
			r.step(p, g, count)
			r.agrees(p)
		}
	}
	for _, err := range []api.Errno{api.OK, api.ErrSpace, api.ErrDown} {
		if count[err] < 100 {
			t.Errorf("%v is answered %d times", err, count[err])
		}
	}
}

// P2: stores have nothing in common, whatever is done on them at one time; the same calls give the same answers.
func TestStoresAreTheirOwn(t *testing.T) {
	rigs := make([]*rig, 6)
	var all sync.WaitGroup
	for i := range rigs {
		rigs[i] = newRig(t, 150)
		all.Go(func() {
			r, g := rigs[i], rand.New(rand.NewPCG(uint64(i/2), 2))
			for range 150 {
				r.s.Do(randomOp(g))
				switch g.IntN(12) {
				case 0:
					r.s.Flush()
				case 1:
					r.s.Collect()
				}
			}
		})
	}
	all.Wait()
	for i := 0; i < len(rigs); i += 2 {
		a, b := rigs[i], rigs[i+1]
		if a.c.Bytes() != b.c.Bytes() || !slices.Equal(a.d.Image(), b.d.Image()) {
			t.Errorf("%d: the same calls give other disks", i)
		}
		if counter, _ := a.c.Get(); counter == 0 {
			t.Errorf("%d: nothing lasts", i)
		}
	}
}
