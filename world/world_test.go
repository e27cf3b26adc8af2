package world_test

import (
	"math"
	"slices"
	"sync"
	"testing"

	"sporran/api"
	"sporran/disk"
	"sporran/store"
	"sporran/world"
)

// P18.1: a world has a disk of 3 to 65,536 sectors, all 0, a cell of 0, an empty store, and no events.
func TestNew(t *testing.T) {
	for _, sectors := range []int{3, 4, 100, api.MaxSectors} {
		w := made(t, sectors)
		image(t, w, make([]api.Sector, sectors))
		if w.Disk().Dead() || w.Now() != 0 || w.Cell().Bytes() != ([40]byte{}) {
			t.Errorf("of %d sectors: %v, %d, %v", sectors, w.Disk().Dead(), w.Now(), w.Cell().Bytes())
		}
		if epoch, _ := w.Store().State(); epoch != 0 || w.Store().Tampered() || w.Store().Room() != sectors-2 {
			t.Errorf("of %d sectors: the epoch %d, %d free", sectors, epoch, w.Store().Room())
		}
		names(t, w)
	}
}

// P18.1: what layer 4 refuses, and what layer 16 does.
func TestNewRefused(t *testing.T) {
	for _, sectors := range []int{math.MinInt, -1, 0, 1, 2, api.MaxSectors + 1, math.MaxInt} {
		w, err := world.New(sectors)
		if w != nil || err != api.ErrRange {
			t.Errorf("of %d sectors: %v, %v", sectors, w, err)
		}
	}
}

// The chapter's example.
func TestExample(t *testing.T) {
	w := made(t, 100)
	happen(t, w, create("a"), crash())
	names(t, w)
}

// P18.1: an operation is answered as the store answers it, with all that it tells.
func TestOp(t *testing.T) {
	w := made(t, 100)
	happen(t, w, create("b"), create("a"), write("a", 3, 7), snapshot("a", "s"))
	has(t, w, "a", 3, 7)
	has(t, w, "s", 3, 7)
	names(t, w, "a", "b", "s")
	happen(t, w, read("a", 4), trim("a", 3), read("a", 3), remove("b"))
	names(t, w, "a", "s")
	for kind, want := range map[int]api.Errno{0: api.ErrArg, -1: api.ErrArg, 9: api.ErrArg} {
		fails(t, w, does(api.Op{Kind: kind, Name: "a"}), want)
	}
	fails(t, w, create("a"), api.ErrThere)
	fails(t, w, create(""), api.ErrArg)
	fails(t, w, write("none", 0, 1), api.ErrNone)
	fails(t, w, write("a", -1, 1), api.ErrRange)
	fails(t, w, write("s", 3, 1), api.ErrFrozen)
	counter(t, w, 0)
	image(t, w, make([]api.Sector, 100)) // it is the store alone that has it
}

// P18.1: an event that isn't an operation has nothing of its Op; an operation nothing of what else the event has.
func TestOtherFieldsAreNothing(t *testing.T) {
	w, plain := made(t, 100), made(t, 100)
	full := func(e api.Event) api.Event {
		x := api.Event{Kind: e.Kind, At: 7, N: 1, Op: api.Op{Kind: api.OpDelete, Name: "a"}, Sector: filled(9), Picks: []byte{1}}
		switch e.Kind {
		case api.EvOp:
			x.Op = e.Op
		case api.EvFuse, api.EvBack:
			x.N = e.N
		case api.EvCrash:
			x.Picks = e.Picks
		case api.EvSet:
			x.At, x.Sector = e.At, e.Sector
		}
		return x
	}
	for i, e := range []api.Event{
		create("a"), write("a", 1, 1), flush(), write("a", 2, 2), collect(), mount(), list(),
		write("a", 3, 3), fuse(2), flush(), crash(0, 1), list(), set(50, 1), back(4), list(), read("a", 2), back(1), mount(), list(),
	} {
		got, want := w.Do(full(e)), plain.Do(e)
		if !sameAnswer(got, want) || !slices.Equal(w.Disk().Image(), plain.Disk().Image()) || w.Disk().Dead() != plain.Disk().Dead() {
			t.Fatalf("event %d: %v, not %v", i, got, want)
		}
	}
}

// P18.1: a Flush lets all last, and does nothing where nothing was done; a Collect lets the cell advance also then, and lets go what isn't used.
func TestFlushAndCollect(t *testing.T) {
	w := made(t, 100)
	happen(t, w, flush())
	counter(t, w, 0)
	happen(t, w, create("a"), write("a", 1, 1), write("a", 2, 2), flush(), flush())
	counter(t, w, 1)
	happen(t, w, crash())
	has(t, w, "a", 2, 2)
	happen(t, w, trim("a", 2), flush())
	counter(t, w, 2)
	if n := w.Store().Stored(); n != 2 {
		t.Errorf("ahead of a Collect: %d blocks", n)
	}
	happen(t, w, collect(), collect())
	counter(t, w, 4)
	if n := w.Store().Stored(); n != 1 {
		t.Errorf("behind it: %d blocks", n)
	}
	happen(t, w, crash(1))
	has(t, w, "a", 1, 1)
	happen(t, w, read("a", 2))
}

// P18.1: ErrSpace and ErrDown are told as the store tells them, and nothing lasts.
func TestFlushFails(t *testing.T) {
	for _, e := range []api.Event{flush(), collect()} {
		w := made(t, 5)
		happen(t, w, create("a"))
		fails(t, w, e, api.ErrSpace)
		names(t, w, "a")
		happen(t, w, crash())
		names(t, w)

		w = made(t, 50)
		happen(t, w, create("a"), fuse(1))
		fails(t, w, e, api.ErrDown)
		names(t, w, "a")
		counter(t, w, 0)
		happen(t, w, crash(), create("b"), e)
		names(t, w, "b")
		counter(t, w, 1)
	}
}

// P18.1: there is power for N more writes and syncs.
func TestFuse(t *testing.T) {
	for _, n := range []int{math.MinInt, -1, 0, 1, 2, math.MaxInt} {
		w := made(t, 10)
		happen(t, w, fuse(n))
		for left := max(n, 0); left > 0 && left < 3; left-- {
			if w.Disk().Dead() {
				t.Errorf("Fuse of %d: the power is gone, %d ahead", n, left)
			}
			w.Disk().Sync()
		}
		if w.Disk().Dead() != (n < 3) {
			t.Errorf("Fuse of %d: Dead %v", n, w.Disk().Dead())
		}
		happen(t, w, fuse(1), fuse(2)) // the last one tells
		w.Disk().Sync()
		if w.Disk().Dead() {
			t.Error("a second Fuse isn't the one that counts")
		}
	}
}

// P18.1: a crash is the disk's, with these picks; then there is power without end, and what lasts is mounted.
func TestCrash(t *testing.T) {
	for _, picks := range [][]byte{nil, {}, {0}, {1}, {5}, {0, 1}, {1, 0, 0}, {1, 5, 0}} {
		for _, power := range []int{0, 1, 9} {
			w, d := made(t, 10), diskNew(t, 10)
			for at := 2; at < 9; at++ {
				w.Disk().Write(at, filled(byte(at)))
				d.Write(at, filled(byte(at)))
			}
			was := w.Store()
			happen(t, w, create("a"), fuse(power), crash(picks...))
			d.Crash(picks)
			image(t, w, d.Image())
			if w.Store() == was || w.Store() == nil {
				t.Errorf("picks %v: not mounted again", picks)
			}
			names(t, w)
			happen(t, w, crash(1))
			image(t, w, d.Image()) // all lasted by then
			for range 10 {
				w.Disk().Sync()
			}
			if w.Disk().Dead() {
				t.Errorf("picks %v: no power", picks)
			}
		}
	}
}

// P18.1: a Mount without a crash: what was done since the last Flush is gone, but the disk stays as it is, and what doesn't last yet waits.
func TestMount(t *testing.T) {
	w := made(t, 50)
	happen(t, w, create("a"), write("a", 1, 1), flush(), write("a", 1, 2), create("b"))
	w.Disk().Write(40, filled(4))
	was, first := w.Disk().Image(), w.Store()
	happen(t, w, fuse(0), mount())
	image(t, w, was)
	if !w.Disk().Dead() || w.Store() == first {
		t.Error("there is power again, or the store is the one that was")
	}
	names(t, w, "a")
	has(t, w, "a", 1, 1)
	counter(t, w, 1)
	happen(t, w, crash(0))
	was[40] = api.Sector{}
	image(t, w, was)
}

// P18.1: where no store is mounted operations, Flush and Collect tell ErrTampered; all else goes on; what is mounted next is a store as any.
func TestNotMounted(t *testing.T) {
	w := made(t, 50)
	happen(t, w, create("a"), write("a", 1, 1), flush())
	lasts := w.Now() - 1
	slot, _ := w.Disk().Read(1)
	for _, again := range []api.Event{mount(), crash(), crash(1, 2)} {
		happen(t, w, set(1, 255))
		has(t, w, "a", 1, 1) // it is mounted yet
		fails(t, w, again, api.ErrTampered)
		if w.Store() != nil {
			t.Fatalf("%v: a store", again)
		}
		for kind := -1; kind < 11; kind++ {
			fails(t, w, does(api.Op{Kind: kind, Name: "a", Other: "b", Quota: 3}), api.ErrTampered)
		}
		fails(t, w, flush(), api.ErrTampered)
		fails(t, w, collect(), api.ErrTampered)
		fails(t, w, mount(), api.ErrTampered)
		fails(t, w, api.Event{}, api.ErrArg)
		fails(t, w, set(-1, 1), api.ErrRange)
		happen(t, w, fuse(0))
		if !w.Disk().Dead() {
			t.Error("a Fuse does nothing")
		}
		fails(t, w, crash(), api.ErrTampered)
		if w.Disk().Dead() {
			t.Error("a crash does nothing")
		}
		counter(t, w, 1)
		if again.Kind == api.EvMount {
			happen(t, w, back(lasts))
		} else {
			happen(t, w, puts(1, slot))
		}
		if w.Store() != nil {
			t.Fatal("nobody has mounted it")
		}
		happen(t, w, again)
		has(t, w, "a", 1, 1)
		names(t, w, "a")
		happen(t, w, flush())
	}
	happen(t, w, collect())
	counter(t, w, 2)
}

// P18.1: once a store has found out that the disk was changed, all tell it, up to a Mount that is OK; Store tells that store.
func TestFoundOut(t *testing.T) {
	w := made(t, 50)
	happen(t, w, create("a"), write("a", 1, 1), flush())
	was, _ := w.Disk().Read(2)
	for _, again := range []api.Event{mount(), crash(0)} {
		happen(t, w, set(2, 99))
		names(t, w, "a") // this one reads nothing
		fails(t, w, read("a", 1), api.ErrTampered)
		fails(t, w, list(), api.ErrTampered)
		fails(t, w, flush(), api.ErrTampered)
		fails(t, w, collect(), api.ErrTampered)
		if w.Store() == nil || !w.Store().Tampered() {
			t.Fatal("Store isn't the one that has found out")
		}
		happen(t, w, puts(2, was))
		fails(t, w, read("a", 1), api.ErrTampered)
		happen(t, w, again)
		has(t, w, "a", 1, 1)
	}
}

// P18.1: Set of all places, and beyond; what is set lasts, and what was written there is gone.
func TestSet(t *testing.T) {
	for _, pick := range []byte{0, 1, 5} {
		w := made(t, 5)
		want := make([]api.Sector, 5)
		for at := range want {
			want[at] = filled(byte(at + 1))
			w.Disk().Write(at, filled(77))
			happen(t, w, puts(at, want[at]))
		}
		for _, at := range []int{math.MinInt, -65536, -1, 5, 6, 65536, math.MaxInt} {
			fails(t, w, set(at, 9), api.ErrRange)
		}
		image(t, w, want)
		happen(t, w, crash(pick))
		image(t, w, want)
	}
}

// P18.1: all other Kinds: ErrArg, and nothing changes, but that there was an event.
func TestOtherKinds(t *testing.T) {
	w := made(t, 50)
	happen(t, w, create("a"), write("a", 1, 1), flush(), create("b"))
	w.Disk().Write(40, filled(4))
	was, bytes, mounted, now := w.Disk().Image(), w.Cell().Bytes(), w.Store(), w.Now()
	for i, kind := range []int{0, -1, 9, 10, 255, 256, 257, math.MinInt, math.MaxInt} {
		e := api.Event{Kind: kind, At: 2, N: 0, Op: remove("a").Op, Sector: filled(9), Picks: []byte{0}}
		fails(t, w, e, api.ErrArg)
		image(t, w, was)
		if w.Cell().Bytes() != bytes || w.Store() != mounted || w.Disk().Dead() || w.Now() != now+i+1 {
			t.Errorf("kind %d has changed something, or is no event", kind)
		}
	}
	names(t, w, "a", "b")
	happen(t, w, crash(1))
	was[40] = filled(4)
	image(t, w, was)
}

// P18.1: Now counts all events, whatever they are answered.
func TestNow(t *testing.T) {
	w := made(t, 5)
	for i, e := range []api.Event{
		back(0), list(), create("a"), create("a"), flush(), collect(), fuse(0), fuse(-1), flush(), crash(), mount(),
		set(9, 9), set(0, 9), back(1), back(-1), {}, {Kind: 99}, set(1, 1), mount(), list(), flush(), api.Event{Kind: api.EvCollect, N: 5},
	} {
		if w.Now() != i {
			t.Errorf("%d events, not %d", w.Now(), i)
		}
		w.Do(e)
	}
}

// P18.1: Disk and Cell are the same ones for ever.
func TestDiskAndCellStay(t *testing.T) {
	w := made(t, 50)
	d, c := w.Disk(), w.Cell()
	for _, e := range []api.Event{create("a"), flush(), crash(), collect(), mount(), set(1, 9), back(1), mount(), back(4), mount()} {
		w.Do(e)
		if w.Disk() != d || w.Cell() != c {
			t.Fatalf("behind %v: another one", e)
		}
	}
	counter(t, w, 2)
	if s, err := store.Mount(d, c); err != api.OK {
		t.Errorf("what a world has isn't mounted by others: %v, %v", s, err)
	}
}

// Rule 4: picks are neither changed nor kept; names are new memory.
func TestMemoryIsItsOwn(t *testing.T) {
	w := made(t, 50)
	picks := []byte{1, 0, 2}
	w.Disk().Write(40, filled(4))
	happen(t, w, api.Event{Kind: api.EvCrash, Picks: picks})
	if !slices.Equal(picks, []byte{1, 0, 2}) {
		t.Error("the picks are changed")
	}
	picks[0] = 0
	w.Disk().Write(41, filled(5))
	happen(t, w, crash(1))
	if s, _ := w.Disk().Read(41); s != filled(5) {
		t.Error("the picks are kept")
	}
	happen(t, w, create("a"), create("b"))
	first := w.Do(list()).Names
	first[0], first[1] = "x", "y"
	names(t, w, "a", "b")
}

func diskNew(t *testing.T, sectors int) *disk.Disk {
	t.Helper()
	d, err := disk.New(sectors)
	if err != api.OK {
		t.Fatal(err)
	}
	return d
}

// P2: worlds have nothing in common, whatever happens in them at one time; the same events are answered the same.
func TestWorldsAreTheirOwn(t *testing.T) {
	answered := make([][]api.Answer, 6)
	images := make([][]api.Sector, 6)
	var all sync.WaitGroup
	for i := range answered {
		w, g := made(t, 80), seeded(uint64(i/2))
		all.Go(func() {
			for range 150 {
				answered[i] = append(answered[i], w.Do(randomEvent(g, w)))
			}
			images[i] = w.Disk().Image()
		})
	}
	all.Wait()
	for i := 0; i < len(images); i += 2 {
		if !slices.Equal(images[i], images[i+1]) || !slices.EqualFunc(answered[i], answered[i+1], sameAnswer) {
			t.Errorf("%d: the same events, and another world", i)
		}
	}
}
