package space_test

import (
	"math"
	"math/rand/v2"
	"slices"
	"sync"
	"testing"

	"sporran/api"
	"sporran/space"
)

func made(t *testing.T, sectors, first int) *space.Space {
	t.Helper()
	s, err := space.New(sectors, first)
	if err != api.OK || s == nil {
		t.Fatalf("New of %d and %d: %v", sectors, first, err)
	}
	return s
}

// plain is the space told once more: a byte for each sector, x where it is taken, . where it is free.
type plain []byte

func (p plain) room(at, n int) bool { return at >= 0 && n >= 0 && at <= len(p) && n <= len(p)-at }

func (p plain) fill(at, n int, with byte) api.Errno {
	if !p.room(at, n) {
		return api.ErrRange
	}
	for i := at; i < at+n; i++ {
		p[i] = with
	}
	return api.OK
}

func (p plain) take(n int) (int, api.Errno) {
	if n < 1 {
		return 0, api.ErrArg
	}
	for at := 0; p.room(at, n); at++ {
		if !slices.Contains(p[at:at+n], 'x') {
			p.fill(at, n, 'x')
			return at, api.OK
		}
	}
	return 0, api.ErrSpace
}

func (p plain) free() int {
	n := 0
	for _, c := range p {
		if c == '.' {
			n++
		}
	}
	return n
}

// holds asks a space for all that it tells of its sectors, and of places around them where there are none.
func holds(t *testing.T, s *space.Space, want string) {
	t.Helper()
	got := make(plain, len(want))
	for at := range got {
		got[at] = '.'
		if s.Taken(at) {
			got[at] = 'x'
		}
	}
	if string(got) != want || s.Free() != plain(want).free() {
		t.Fatalf("%s with %d free, not %s", got, s.Free(), want)
	}
	for _, at := range []int{math.MinInt, -65536, -1, len(want), len(want) + 1, 65536, math.MaxInt} {
		if s.Taken(at) {
			t.Fatalf("%s: there is no sector %d, and it is taken", want, at)
		}
	}
}

// laid gives a space whose sectors are as a text tells.
func laid(t *testing.T, sectors string) *space.Space {
	t.Helper()
	s := made(t, len(sectors), 0)
	for at, c := range sectors {
		if c == 'x' {
			if err := s.Mark(at, 1); err != api.OK {
				t.Fatalf("Mark at %d: %v", at, err)
			}
		}
	}
	return s
}

// all gives each text of n sectors that there is.
func all(n int) []string {
	out := []string{""}
	for range n {
		var next []string
		for _, s := range out {
			next = append(next, s+".", s+"x")
		}
		out = next
	}
	return out
}

// far are numbers that are no place in a small space, and no count of sectors there.
func far() []int {
	return []int{math.MinInt, math.MinInt + 1, -1 << 31, -65536, -1, 1 << 16, 1 << 31, 1 << 32, math.MaxInt - 1, math.MaxInt}
}

// P6.1: a space has 1 to 65,536 sectors; the first ones are taken, all of them also.
func TestNew(t *testing.T) {
	for n := 1; n <= 9; n++ {
		for first := 0; first <= n; first++ {
			want := slices.Repeat(plain("."), n)
			want.fill(0, first, 'x')
			holds(t, made(t, n, first), string(want))
		}
	}
	for _, first := range []int{0, 1, 2, 65535, api.MaxSectors} {
		s := made(t, api.MaxSectors, first)
		if s.Free() != api.MaxSectors-first || s.Taken(first) || first > 0 && !(s.Taken(0) && s.Taken(first-1)) {
			t.Errorf("New of the greatest number and %d", first)
		}
	}
}

// P6.1: ErrRange and nil, where there can't be so many sectors, or so many first ones.
func TestNewRefused(t *testing.T) {
	for _, c := range [][2]int{
		{0, 0}, {-1, 0}, {-1, -1}, {math.MinInt, 0}, {math.MinInt, math.MinInt},
		{api.MaxSectors + 1, 0}, {api.MaxSectors + 1, 5}, {math.MaxInt, 0}, {math.MaxInt, math.MaxInt},
		{1, -1}, {1, 2}, {5, -1}, {5, 6}, {5, math.MinInt}, {5, math.MaxInt}, {0, 1}, {0, -1},
		{api.MaxSectors, -1}, {api.MaxSectors, api.MaxSectors + 1},
	} {
		if s, err := space.New(c[0], c[1]); err != api.ErrRange || s != nil {
			t.Errorf("New of %d and %d: %v, %v", c[0], c[1], s, err)
		}
	}
}

// P6.2: of whatever sectors are taken, and however many are wanted, the least place at which so many free ones stand is taken, or none.
func TestTakeEach(t *testing.T) {
	for n := 1; n <= 8; n++ {
		for _, sectors := range all(n) {
			for count := -1; count <= n+1; count++ {
				s, p := laid(t, sectors), plain(sectors)
				wantAt, wantErr := p.take(count)
				if at, err := s.Take(count); at != wantAt || err != wantErr {
					t.Fatalf("%s: Take of %d: %d, %v, not %d, %v", sectors, count, at, err, wantAt, wantErr)
				}
				holds(t, s, string(p))
			}
		}
	}
}

// P6.2: what Take tells, said by hand.
func TestTake(t *testing.T) {
	for _, c := range []struct {
		sectors string
		n, at   int
		err     api.Errno
		behind  string
	}{
		{"xx...", 2, 2, api.OK, "xxxx."},
		{".x..x...", 1, 0, api.OK, "xx..x..."},
		{".x..x...", 2, 2, api.OK, ".xxxx..."},
		{".x..x...", 3, 5, api.OK, ".x..xxxx"},
		{".x..x...", 4, 0, api.ErrSpace, ".x..x..."},
		{".x.x.x.", 2, 0, api.ErrSpace, ".x.x.x."},
		{"...", 3, 0, api.OK, "xxx"},
		{"...", 4, 0, api.ErrSpace, "..."},
		{"xxx", 1, 0, api.ErrSpace, "xxx"},
		{"x", 0, 0, api.ErrArg, "x"},
		{"..", 0, 0, api.ErrArg, ".."},
		{"..", -1, 0, api.ErrArg, ".."},
	} {
		s := laid(t, c.sectors)
		if at, err := s.Take(c.n); at != c.at || err != c.err {
			t.Errorf("%s: Take of %d: %d, %v, not %d, %v", c.sectors, c.n, at, err, c.at, c.err)
		}
		holds(t, s, c.behind)
	}
}

// P6.2: a Take of none, or of more than there can be, changes nothing.
func TestTakeRefused(t *testing.T) {
	for _, sectors := range []string{".", "x", "x..x.", "xxxx"} {
		s := laid(t, sectors)
		for _, n := range append(far(), 0) {
			want := api.ErrSpace
			if n < 1 {
				want = api.ErrArg
			}
			if at, err := s.Take(n); at != 0 || err != want {
				t.Errorf("%s: Take of %d: %d, %v", sectors, n, at, err)
			}
			holds(t, s, sectors)
		}
	}
}

// P6.2: Mark and Release of each number of sectors at each place, whatever they were; of none, also behind the last one.
func TestMarkAndReleaseEach(t *testing.T) {
	for n := 1; n <= 6; n++ {
		for _, sectors := range all(n) {
			for at := -2; at <= n+2; at++ {
				for count := -2; count <= n+2; count++ {
					s, p := laid(t, sectors), plain(sectors)
					want := p.fill(at, count, 'x')
					if err := s.Mark(at, count); err != want {
						t.Fatalf("%s: Mark at %d of %d: %v, not %v", sectors, at, count, err, want)
					}
					holds(t, s, string(p))

					s, p = laid(t, sectors), plain(sectors)
					want = p.fill(at, count, '.')
					if err := s.Release(at, count); err != want {
						t.Fatalf("%s: Release at %d of %d: %v, not %v", sectors, at, count, err, want)
					}
					holds(t, s, string(p))
				}
			}
		}
	}
}

// P6.2: Mark and Release of places and numbers that are out of bounds, also of such as can't be added up.
func TestMarkAndReleaseRefused(t *testing.T) {
	const sectors = "x..x."
	s := laid(t, sectors)
	refuse := func(at, n int) {
		t.Helper()
		if err := s.Mark(at, n); err != api.ErrRange {
			t.Errorf("Mark at %d of %d: %v", at, n, err)
		}
		if err := s.Release(at, n); err != api.ErrRange {
			t.Errorf("Release at %d of %d: %v", at, n, err)
		}
		holds(t, s, sectors)
	}
	for _, v := range append(far(), 6) {
		for near := -1; near <= 6; near++ {
			refuse(v, near)
			refuse(near, v)
		}
		for _, w := range far() {
			refuse(v, w)
		}
	}
	refuse(5, 1)
	refuse(4, 2)
	refuse(0, 6)
}

// P6.2: Mark and Release said by hand: what is taken is marked, what is free released, in part also.
func TestMarkAndRelease(t *testing.T) {
	s := made(t, 8, 2)
	for _, c := range []struct {
		call  func(at, n int) api.Errno
		at, n int
		want  string
	}{
		{s.Mark, 4, 2, "xx..xx.."},
		{s.Mark, 3, 2, "xx.xxx.."},
		{s.Mark, 3, 2, "xx.xxx.."},
		{s.Mark, 8, 0, "xx.xxx.."},
		{s.Mark, 2, 0, "xx.xxx.."},
		{s.Release, 0, 1, ".x.xxx.."}, // the first ones are as any
		{s.Release, 4, 4, ".x.x...."},
		{s.Release, 4, 4, ".x.x...."},
		{s.Release, 3, 0, ".x.x...."},
		{s.Release, 8, 0, ".x.x...."},
		{s.Mark, 0, 8, "xxxxxxxx"},
		{s.Release, 0, 8, "........"},
	} {
		if err := c.call(c.at, c.n); err != api.OK {
			t.Errorf("at %d of %d: %v", c.at, c.n, err)
		}
		holds(t, s, c.want)
	}
}

// P6.2: what is released, be it ahead of what is taken, is found by the next Take.
func TestTakeBehindRelease(t *testing.T) {
	s := made(t, 9, 2)
	for _, c := range []struct{ n, at int }{{3, 2}, {1, 5}, {3, 6}} {
		if at, err := s.Take(c.n); at != c.at || err != api.OK {
			t.Fatalf("Take of %d: %d, %v", c.n, at, err)
		}
	}
	if _, err := s.Take(1); err != api.ErrSpace {
		t.Errorf("Take of a full space: %v", err)
	}
	s.Release(7, 2)
	s.Release(1, 1)
	s.Release(3, 2)
	holds(t, s, "x.x..xx..")
	s.Mark(1, 0) // changes nothing
	for _, c := range []struct{ n, at int }{{2, 3}, {2, 7}, {1, 1}} {
		if at, err := s.Take(c.n); at != c.at || err != api.OK {
			t.Fatalf("Take of %d: %d, %v", c.n, at, err)
		}
	}
	holds(t, s, "xxxxxxxxx")
}

// P6.2: a twin is the same, and one of its own: neither sees what the other is told.
func TestTwin(t *testing.T) {
	for n := 1; n <= 6; n++ {
		for _, sectors := range all(n) {
			s := laid(t, sectors)
			w := s.Twin()
			holds(t, w, sectors)
			for _, one := range [][2]*space.Space{{s, w}, {w, s}} {
				one[0].Mark(0, n)
				holds(t, one[1], sectors)
				one[0].Release(0, n)
				holds(t, one[1], sectors)
				one[0].Take(1)
				holds(t, one[1], sectors)
				one[0].Release(0, n)
				for at, c := range sectors {
					if c == 'x' {
						one[0].Mark(at, 1)
					}
				}
			}
			third, p := w.Twin(), plain(sectors) // a twin's twin, that takes as the first one would
			wantAt, wantErr := p.take(1)
			if at, err := third.Take(1); at != wantAt || err != wantErr {
				t.Fatalf("%s: Take of 1 of a twin: %d, %v, not %d, %v", sectors, at, err, wantAt, wantErr)
			}
			holds(t, third, string(p))
			holds(t, w, sectors)
			holds(t, s, sectors)
		}
	}
}

// step does one thing to a space and to the plain one, and tells whether they answer the same.
func step(r *rand.Rand, s *space.Space, p plain) bool {
	at, n := r.IntN(len(p)+3)-1, r.IntN(len(p)+3)-1
	if r.IntN(3) > 0 {
		n = r.IntN(4)
	}
	switch r.IntN(4) {
	case 0:
		return s.Mark(at, n) == p.fill(at, n, 'x')
	case 1:
		return s.Release(at, n) == p.fill(at, n, '.')
	default:
		got, err := s.Take(n)
		want, wantErr := p.take(n)
		return got == want && err == wantErr
	}
}

// P6.1, P6.2: whatever is called, in whatever order, it is as the plain one tells.
func TestAgainstPlain(t *testing.T) {
	for seed := range uint64(200) {
		r := rand.New(rand.NewPCG(seed, 6))
		n := 1 + r.IntN(40)
		s, p := made(t, n, 0), slices.Repeat(plain("."), n)
		for i := range 300 {
			if !step(r, s, p) {
				t.Fatalf("seed %d, step %d: %s: another answer", seed, i, p)
			}
			holds(t, s, string(p))
			if r.IntN(20) == 0 {
				s = s.Twin()
			}
		}
	}
}

// P2: spaces have nothing in common; the same calls give the same answers, also at one time.
func TestSpacesAreTheirOwn(t *testing.T) {
	same := make([]bool, 8)
	var all sync.WaitGroup
	for i := range same {
		all.Go(func() {
			r := rand.New(rand.NewPCG(1, 1))
			s, _ := space.New(50, 0)
			p := slices.Repeat(plain("."), 50)
			same[i] = true
			for range 300 {
				same[i] = step(r, s, p) && same[i]
			}
		})
	}
	all.Wait()
	if slices.Contains(same, false) {
		t.Error("spaces at one time give other answers")
	}
}

// P1: many Takes of a great space end in good time, be it taken from its beginning on or not.
func TestManyTakes(t *testing.T) {
	s := made(t, api.MaxSectors, 2)
	s.Mark(3, 1000)
	for i := range s.Free() {
		want := 2
		if i > 0 {
			want = 1002 + i
		}
		if at, err := s.Take(1); at != want || err != api.OK {
			t.Fatalf("Take %d: %d, %v, not %d", i, at, err, want)
		}
	}
	if at, err := s.Take(1); at != 0 || err != api.ErrSpace || s.Free() != 0 {
		t.Errorf("Take of a full space: %d, %v, with %d free", at, err, s.Free())
	}
	s.Release(0, api.MaxSectors)
	if at, err := s.Take(api.MaxSectors); at != 0 || err != api.OK || s.Free() != 0 {
		t.Errorf("Take of all: %d, %v, with %d free", at, err, s.Free())
	}
}
