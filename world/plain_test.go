package world_test

import (
	"math"
	"math/rand/v2"
	"slices"
	"testing"

	"sporran/api"
	"sporran/cell"
	"sporran/disk"
	"sporran/store"
	"sporran/world"
)

// plain is the world told once more: all images are kept as they are, and each kind is told for itself.
type plain struct {
	d      *disk.Disk
	c      *cell.Cell
	s      *store.Store
	images [][]api.Sector
}

func newPlain(sectors int) *plain {
	d, _ := disk.New(sectors)
	c := cell.New(0, api.Digest{})
	s, _ := store.Mount(d, c)
	return &plain{d: d, c: c, s: s}
}

func (p *plain) do(e api.Event) api.Answer {
	a := p.answer(e)
	p.images = append(p.images, p.d.Image())
	return a
}

func (p *plain) answer(e api.Event) api.Answer {
	var a api.Answer
	if e.Kind < 1 || e.Kind > 8 {
		a.Err = api.ErrArg
	}
	if e.Kind <= 3 && e.Kind >= 1 && p.s == nil {
		return api.Answer{Err: api.ErrTampered}
	}
	if e.Kind == 1 {
		a = p.s.Do(e.Op)
	}
	if e.Kind == 2 {
		a.Err = p.s.Flush()
	}
	if e.Kind == 3 {
		a.Err = p.s.Collect()
	}
	if e.Kind == 4 {
		p.d.Fuse(e.N)
	}
	if e.Kind == 5 {
		p.d.Crash(e.Picks)
	}
	if e.Kind == 5 || e.Kind == 6 {
		p.s, a.Err = store.Mount(p.d, p.c)
	}
	if e.Kind == 7 {
		a.Err = p.d.Set(e.At, e.Sector)
	}
	if e.Kind == 8 && len(p.images) == 0 {
		a.Err = api.ErrNone
	} else if e.Kind == 8 {
		at := e.N
		for at < 0 || at >= len(p.images) { // by ever lesser steps, as N may be great
			step := len(p.images)
			for step < math.MaxInt/4 && (at >= 2*step || at < -2*step) {
				step *= 2
			}
			if at < 0 {
				at += step
			} else {
				at -= step
			}
		}
		p.d.Restore(p.images[at])
	}
	return a
}

// agrees asks that a world shows just what the plain one does.
func (p *plain) agrees(t *testing.T, w *world.World) {
	t.Helper()
	if w.Now() != len(p.images) {
		t.Fatalf("%d events, not %d", w.Now(), len(p.images))
	}
	if !slices.Equal(w.Disk().Image(), p.d.Image()) || w.Disk().Dead() != p.d.Dead() {
		t.Fatal("another disk")
	}
	if w.Cell().Bytes() != p.c.Bytes() {
		t.Fatalf("the cell %v, not %v", w.Cell().Bytes(), p.c.Bytes())
	}
	s := w.Store()
	if (s == nil) != (p.s == nil) {
		t.Fatalf("a store: %v, not %v", s != nil, p.s != nil)
	}
	if s == nil {
		return
	}
	epoch, root := s.State()
	wantEpoch, wantRoot := p.s.State()
	if epoch != wantEpoch || root != wantRoot || s.Tampered() != p.s.Tampered() || s.Room() != p.s.Room() || s.Stored() != p.s.Stored() {
		t.Fatalf("another store: %d, %v, not %d, %v", epoch, s.Tampered(), wantEpoch, p.s.Tampered())
	}
}

// randomEvent gives one of any kind, rather an operation.
func randomEvent(g *rand.Rand, w *world.World) api.Event {
	e := api.Event{Op: randomOp(g), At: g.IntN(w.Disk().Len()+2) - 1, Picks: randomPicks(g), Sector: filled(byte(g.Uint32()))}
	e.N = []int{g.IntN(30) - 1, g.IntN(30) - 1, g.IntN(2*w.Now() + 1), -1, -2, math.MinInt, math.MaxInt, int(g.Uint64())}[g.IntN(8)]
	switch k := g.IntN(100); {
	case k < 60:
		e.Kind = api.EvOp
	case k < 72:
		e.Kind = api.EvFlush
	case k < 78:
		e.Kind = api.EvCollect
	case k < 82:
		e.Kind = api.EvFuse
	case k < 88:
		e.Kind = api.EvCrash
	case k < 91:
		e.Kind = api.EvMount
	case k < 93:
		e.Kind = api.EvSet
	case k < 98:
		e.Kind = api.EvBack
	default:
		e.Kind = []int{0, -1, 9, 77}[g.IntN(4)]
	}
	return e
}

// P18.1: whatever happens, in whatever order, also what others do to the disk between: all is as the plain world tells.
func TestAgainstPlain(t *testing.T) {
	count := map[[2]int]int{}
	for seed := range uint64(150) {
		g := seeded(seed)
		sectors := 3 + g.IntN(120)
		w, p := made(t, sectors), newPlain(sectors)
		for i := range 200 {
			if g.IntN(40) == 0 {
				at, s := g.IntN(sectors), filled(byte(g.Uint32()))
				w.Disk().Write(at, s)
				p.d.Write(at, s)
			}
			e := randomEvent(g, w)
			got, want := w.Do(e), p.do(e)
			if !sameAnswer(got, want) {
				t.Fatalf("seed %d, event %d, %v: %v, not %v", seed, i, e, got, want)
			}
			count[[2]int{e.Kind, int(got.Err)}]++
			p.agrees(t, w)
		}
	}
	for _, often := range [][2]int{
		{api.EvOp, 0}, {api.EvOp, 7}, {api.EvFlush, 0}, {api.EvFlush, 4}, {api.EvFlush, 7}, {api.EvFlush, 11}, {api.EvCollect, 0}, {api.EvCollect, 7},
		{api.EvFuse, 0}, {api.EvCrash, 0}, {api.EvCrash, 7}, {api.EvMount, 0}, {api.EvMount, 7}, {api.EvSet, 0}, {api.EvSet, 2}, {api.EvBack, 0}, {0, 1},
	} {
		if count[often] < 10 {
			t.Errorf("%v: %d times", often, count[often])
		}
	}
}
