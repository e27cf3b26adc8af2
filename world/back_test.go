package world_test

import (
	"math"
	"slices"
	"testing"

	"sporran/api"
	"sporran/world"
)

// witness is a world, and all its images as they were behind each event, seen from outside.
type witness struct {
	t *testing.T
	*world.World
	images [][]api.Sector
}

func (s *witness) happen(events ...api.Event) {
	s.t.Helper()
	for _, e := range events {
		happen(s.t, s.World, e)
		s.images = append(s.images, s.Disk().Image())
	}
}

// fails lets an event happen, and asks for its error.
func (s *witness) fails(e api.Event, want api.Errno) {
	s.t.Helper()
	fails(s.t, s.World, e, want)
	s.images = append(s.images, s.Disk().Image())
}

// lived gives a world in which each event has changed the disk.
func lived(t *testing.T) *witness {
	s := &witness{t: t, World: made(t, 50)}
	for i := range 7 {
		s.happen(set(40, byte(i+1)), set(41+i, 9), set(40+i, 0))
	}
	return s
}

// P18.1: where there were no events: ErrNone; that was one.
func TestBackToNothing(t *testing.T) {
	for _, n := range []int{math.MinInt, -1, 0, 1, math.MaxInt} {
		w := made(t, 5)
		w.Disk().Write(3, filled(3))
		was := w.Disk().Image()
		fails(t, w, back(n), api.ErrNone)
		image(t, w, was)
		w.Disk().Write(3, filled(4))
		happen(t, w, back(n)) // of one event each place is that one's
		image(t, w, was)
		if w.Now() != 2 {
			t.Errorf("%d events", w.Now())
		}
	}
}

// P18.1: the image behind the event at each place, and modulo how many there were, below 0 too.
func TestBackToEach(t *testing.T) {
	s := lived(t)
	for step := range 30 {
		for _, round := range []int{0, 1, -1, 5, -7, 1000000, -1000000} {
			count := len(s.images)
			at := step % count
			s.happen(back(at + round*count))
			if !slices.Equal(s.images[count], s.images[at]) {
				t.Fatalf("Back of %d, of %d events: not the image %d", at+round*count, count, at)
			}
		}
	}
}

// P18.1: the greatest and least numbers.
func TestBackToBounds(t *testing.T) {
	for _, n := range []int{math.MaxInt, math.MaxInt - 1, math.MinInt, math.MinInt + 1, -1, -21, -22, 20, 21} {
		s := lived(t)
		count := len(s.images)
		at := n % count
		if at < 0 {
			at += count
		}
		s.happen(back(n))
		if !slices.Equal(s.images[count], s.images[at]) {
			t.Errorf("Back of %d, of %d events: not the image %d", n, count, at)
		}
	}
}

// P18.1: an image is what was behind the event, not ahead of it, and not what somebody did behind it; events that do nothing have one too.
func TestImagesAreBehindEvents(t *testing.T) {
	w := made(t, 50)
	d := w.Disk()
	d.Set(40, filled(1))
	happen(t, w, set(41, 1)) // 0: what was done ahead of it is there, too
	d.Set(40, filled(2))
	happen(t, w, list()) // 1
	d.Write(40, filled(3))
	fails(t, w, api.Event{}, api.ErrArg) // 2
	d.Set(40, filled(4))
	fails(t, w, set(50, 9), api.ErrRange) // 3
	d.Set(40, filled(5))
	d.Set(41, filled(6))
	for at, want := range [][2]byte{{1, 1}, {2, 1}, {3, 1}, {4, 1}} {
		happen(t, w, back(at))
		is := d.Image()
		if is[40] != filled(want[0]) || is[41] != filled(want[1]) {
			t.Errorf("the image %d: %v, %v", at, is[40], is[41])
		}
	}
}

// P18.1: an image is what is seen, also what doesn't last yet; put back it lasts, and nothing waits any more; power is as it was.
func TestBackLasts(t *testing.T) {
	w := made(t, 50)
	d := w.Disk()
	d.Write(40, filled(1))
	happen(t, w, fuse(3)) // 0
	d.Write(40, filled(2))
	d.Write(41, filled(3))
	happen(t, w, back(0)) // 1
	if d.Dead() {
		t.Error("the power is gone")
	}
	d.Write(42, filled(4))
	if !d.Dead() {
		t.Error("Back has changed the fuse")
	}
	happen(t, w, back(1)) // 2
	if !d.Dead() {
		t.Error("Back lets there be power")
	}
	happen(t, w, crash(1))
	is := d.Image()
	if is[40] != filled(1) || is[41] != filled(0) || is[42] != filled(0) {
		t.Errorf("%v", is[40:43])
	}
}

// P18.1: Back changes the disk alone: the store that is mounted, and the cell, stay.
func TestBackIsTheDisksAlone(t *testing.T) {
	w := made(t, 100)
	happen(t, w, create("a"), write("a", 1, 1), flush(), write("a", 2, 2), flush(), write("a", 3, 3))
	mounted, bytes := w.Store(), w.Cell().Bytes()
	happen(t, w, back(0))
	if w.Store() != mounted || w.Cell().Bytes() != bytes || w.Store().Tampered() {
		t.Error("another store, or cell")
	}
	names(t, w, "a")
	has(t, w, "a", 3, 3) // it is fresh
	fails(t, w, read("a", 1), api.ErrTampered)
}

// The example 5 of the whole: yesterday's image isn't mounted; one is as long as the cell hasn't advanced since.
func TestYesterdaysImage(t *testing.T) {
	s := &witness{t: t, World: made(t, 200)}
	s.happen(create("a"))
	ops := []api.Op{create("a").Op}
	for i := range 4 {
		e := write("a", i, byte(i))
		ops = append(ops, e.Op)
		s.happen(e, flush())
		now := len(s.images) - 1
		last := s.images[now]
		for at := range now + 1 {
			s.happen(back(at))
			if slices.Equal(s.images[at], last) { // the cell's, as only a Flush changes it
				s.happen(mount())
				holds(t, s.Store(), replay(ops))
			} else {
				s.fails(mount(), api.ErrTampered)
			}
		}
		s.happen(back(now), mount())
	}
}

// P1: many events on a disk that is as great as may be: each image can be put back.
func TestManyImages(t *testing.T) {
	w := made(t, api.MaxSectors)
	const events = 700
	for i := range events {
		happen(t, w, set(3+i*90, byte(i)|1))
	}
	for _, n := range []int{0, 1, 350, events - 1} {
		happen(t, w, back(n))
		want := make([]api.Sector, api.MaxSectors)
		for i := range n + 1 {
			want[3+i*90] = filled(byte(i) | 1)
		}
		if !slices.Equal(w.Disk().Image(), want) {
			t.Errorf("another image than that behind the event %d", n)
		}
	}
}
