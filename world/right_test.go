package world_test

import (
	"math/rand/v2"
	"slices"
	"testing"

	"sporran/api"
	"sporran/model"
	"sporran/world"
)

// told is a world, and what the model tells of it.
type told struct {
	t *testing.T
	*world.World
	m            *model.Model
	ops, lasting []api.Op // what was done, and what of it lasts
	last         int      // the event with which it began to last
	changed      bool     // somebody has changed the disk
	found        bool     // ErrTampered was answered, and no Mount was OK since
	count        map[string]int
}

func newTold(t *testing.T, sectors int, count map[string]int) *told {
	return &told{t: t, World: made(t, sectors), m: model.New(), count: count}
}

// happen lets an event happen, and asks that its answer is right, or, if somebody has changed the disk, ErrTampered.
func (w *told) happen(e api.Event) {
	w.t.Helper()
	before, _ := w.Cell().Get()
	a := w.Do(e)
	after, _ := w.Cell().Get()
	if a.Err == api.ErrTampered && !w.changed {
		w.t.Fatalf("%v: ErrTampered, and nobody has changed the disk", e)
	}
	if a.Err != api.OK && !sameAnswer(a, api.Answer{Err: a.Err}) {
		w.t.Fatalf("%v: %v: something beside an error", e, a)
	}
	switch e.Kind {
	case api.EvOp:
		w.answered(e.Op, a)
	case api.EvFlush, api.EvCollect:
		w.flushed(a.Err, after-before)
	case api.EvCrash, api.EvMount:
		w.mounted(a.Err)
	case api.EvSet, api.EvBack:
		w.changed = true
	}
	if e.Kind != api.EvFlush && e.Kind != api.EvCollect && before != after {
		w.t.Fatalf("%v: the cell has advanced", e)
	}
	if w.found != (w.Store() == nil || w.Store().Tampered()) {
		w.t.Fatalf("%v: found out: %v", e, w.found)
	}
}

// tampered tells whether an answer is ErrTampered, as all are from the first one on.
func (w *told) tampered(err api.Errno) bool {
	w.t.Helper()
	if w.found && err != api.ErrTampered {
		w.t.Fatalf("%v, behind ErrTampered", err)
	}
	w.found = err == api.ErrTampered
	if w.found {
		w.count["found"]++
	}
	return w.found
}

func (w *told) answered(o api.Op, a api.Answer) {
	w.t.Helper()
	if w.tampered(a.Err) {
		return
	}
	if want := w.m.Do(o); !sameAnswer(a, want) {
		w.t.Fatalf("%v: %v, not %v", o, a, want)
	}
	if a.Err == api.OK && model.Changes(o.Kind) {
		w.ops = append(w.ops, o)
	}
	if a.There {
		w.count["read"]++
	}
}

func (w *told) flushed(err api.Errno, steps uint64) {
	w.t.Helper()
	if !w.tampered(err) && err != api.OK && err != api.ErrSpace && err != api.ErrDown {
		w.t.Fatalf("a Flush: %v", err)
	}
	if steps > 1 || steps == 1 && err != api.OK {
		w.t.Fatalf("a Flush: %v, and the cell has advanced by %d", err, steps)
	}
	if steps == 0 && err == api.OK && len(w.ops) != len(w.lasting) {
		w.t.Fatal("a Flush: OK, and the cell hasn't advanced")
	}
	if err == api.OK {
		w.lasting = slices.Clone(w.ops)
		w.count["lasts"]++
	}
	if steps == 1 {
		w.last = w.Now() - 1
	}
	if err == api.ErrDown {
		w.count["down"]++
	}
}

// mounted asks that a store that is mounted has what lasts.
func (w *told) mounted(err api.Errno) {
	w.t.Helper()
	if (err == api.OK) != (w.Store() != nil) || err != api.OK && err != api.ErrTampered {
		w.t.Fatalf("a Mount: %v, %v", err, w.Store())
	}
	w.found = err != api.OK
	if w.found {
		w.count["not mounted"]++
		return
	}
	w.count["mounted"]++
	w.ops, w.m = slices.Clone(w.lasting), replay(w.lasting)
	if !w.changed {
		holds(w.t, w.Store(), w.m)
	}
	w.happen(list())
}

// quiet gives an event by which nobody else changes the disk.
func quiet(g *rand.Rand) api.Event {
	switch k := g.IntN(100); {
	case k < 70:
		return does(randomOp(g))
	case k < 80:
		return flush()
	case k < 85:
		return collect()
	case k < 91:
		return fuse(g.IntN(30) - 1)
	case k < 97:
		return crash(randomPicks(g)...)
	}
	return mount()
}

// enough asks that all that is to be tried was.
func enough(t *testing.T, count map[string]int, what ...string) {
	t.Helper()
	for _, x := range what {
		if count[x] < 300 {
			t.Errorf("%s: %d times", x, count[x])
		}
	}
}

// P18.2: where nobody else changes the disk no answer is ErrTampered, and each Mount tells what the last Flush or Collect left that advanced the cell.
func TestNobodyElse(t *testing.T) {
	count := map[string]int{}
	for seed := range uint64(150) {
		g := seeded(seed)
		w := newTold(t, 3+g.IntN(250), count)
		for range 250 {
			w.happen(quiet(g))
		}
	}
	enough(t, count, "read", "lasts", "down", "mounted")
}

// P18.2: the power goes at each write of a Flush or a Collect, whatever of what was written comes through: it is as it was, or, as the cell has advanced, as it was to be.
func TestPowerGoes(t *testing.T) {
	g := seeded(182)
	all := [][]byte{nil, {0}, {1}, {2}, {62}, {1, 0}, {0, 1}, {0, 0, 1}, {1, 1, 2}, {2, 5, 8, 11, 14, 17, 20, 23}, {255, 254, 253, 252}}
	for range 6 {
		all = append(all, append(randomPicks(g), 1))
	}
	for _, last := range []api.Event{flush(), collect()} {
		count := map[string]int{}
		for n := range 24 {
			for _, picks := range all {
				w := newTold(t, 80, count)
				for _, e := range []api.Event{
					create("a"), write("a", 0, 1), write("a", 1, 2), write("a", 2, 3), snapshot("a", "s"), flush(),
					write("a", 0, 4), trim("a", 2), remove("s"), create("b"), write("b", 7, 2),
					fuse(n), last, list(), read("a", 0), crash(picks...), // it is mounted again
					write("a", 8, 9), write("a", 0, 4), flush(), collect(), mount(),
				} {
					w.happen(e)
				}
			}
		}
		if count["down"] < 50 {
			t.Errorf("%v: the power went %d times", last.Kind, count["down"])
		}
	}
}

// P18.2: whatever somebody does to the disk: what is read is what the model tells, or ErrTampered is answered, by all up to a Mount that is OK; and that has what lasts.
func TestSomebodyElse(t *testing.T) {
	count := map[string]int{}
	for seed := range uint64(500) {
		g := seeded(1000 + seed)
		w := newTold(t, 120, count)
		for range 150 {
			if g.IntN(25) > 0 {
				w.happen(quiet(g))
				continue
			}
			w.happen(attack(g, w.World))
			if g.IntN(3) == 0 {
				w.happen(mount())
			}
			if g.IntN(3) == 0 { // as it was when it began to last; if that was changed by then, it isn't mounted
				w.happen(back(w.last))
				w.happen(mount())
			}
		}
	}
	enough(t, count, "read", "lasts", "mounted", "not mounted", "found")
}

// P18.2: each sector that lasts is changed: reading all behind a Mount tells what the model does, or ErrTampered; never anything else.
func TestEachSector(t *testing.T) {
	count := map[string]int{}
	w := newTold(t, 60, count)
	for _, e := range []api.Event{create("a"), write("a", 0, 1), write("a", 1, 2), flush(), write("a", 1, 3), write("a", 3, 4), flush(), trim("a", 3), flush()} {
		w.happen(e)
	}
	last := w.Now() - 1
	for at, s := range w.Disk().Image() {
		s[at%48] ^= 4
		w.happen(puts(at, s))
		for range 2 {
			for number := range 5 {
				w.happen(read("a", number))
			}
			w.happen(mount())
		}
		w.happen(back(last))
		w.happen(mount())
		if w.found {
			t.Fatalf("sector %d: what is put back isn't mounted", at)
		}
	}
	if count["not mounted"] < 2*8 || count["found"] < 2*5 {
		t.Errorf("%v", count)
	}
}
