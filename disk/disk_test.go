package disk_test

import (
	"math"
	"math/rand/v2"
	"slices"
	"sync"
	"testing"

	"sporran/api"
	"sporran/disk"
)

// filled is a sector that has the byte v everywhere.
func filled(v byte) api.Sector {
	var s api.Sector
	for i := range s {
		s[i] = v
	}
	return s
}

// torn is a sector whose first n bytes are those of one, the others those of another.
func torn(n int, ahead, behind byte) api.Sector {
	s := filled(behind)
	for i := range n {
		s[i] = ahead
	}
	return s
}

func made(t *testing.T, sectors int) *disk.Disk {
	t.Helper()
	d, err := disk.New(sectors)
	if err != api.OK || d == nil {
		t.Fatalf("New of %d: %v", sectors, err)
	}
	return d
}

func write(t *testing.T, d *disk.Disk, at int, v byte) {
	t.Helper()
	if err := d.Write(at, filled(v)); err != api.OK {
		t.Fatalf("Write at %d: %v", at, err)
	}
}

func set(t *testing.T, d *disk.Disk, at int, v byte) {
	t.Helper()
	if err := d.Set(at, filled(v)); err != api.OK {
		t.Fatalf("Set at %d: %v", at, err)
	}
}

// holds asks for all that is seen, by Read and by Image.
func holds(t *testing.T, d *disk.Disk, want ...api.Sector) {
	t.Helper()
	if d.Len() != len(want) {
		t.Fatalf("Len: %d, not %d", d.Len(), len(want))
	}
	if got := d.Image(); !slices.Equal(got, want) {
		t.Errorf("Image: %v, not %v", got, want)
	}
	for at, s := range want {
		if got, err := d.Read(at); err != api.OK || got != s {
			t.Errorf("Read at %d: %v, %v, not %v", at, got, err, s)
		}
	}
}

// P4.1: a disk has 1 to 65,536 sectors, all 0 at first.
func TestNew(t *testing.T) {
	for _, n := range []int{math.MinInt, -1, 0, api.MaxSectors + 1, math.MaxInt} {
		if d, err := disk.New(n); err != api.ErrRange || d != nil {
			t.Errorf("New of %d: %v, %v", n, d, err)
		}
	}
	for _, n := range []int{1, 2, 77, api.MaxSectors} {
		d := made(t, n)
		if d.Len() != n || d.Dead() {
			t.Errorf("New of %d: Len %d, Dead %v", n, d.Len(), d.Dead())
		}
		if !slices.Equal(d.Image(), make([]api.Sector, n)) {
			t.Errorf("New of %d: there is something in it", n)
		}
	}
}

// P4.1: where there is no sector, nothing is read, written or set.
func TestNoSuchSector(t *testing.T) {
	d := made(t, 3)
	write(t, d, 0, 1)
	write(t, d, 2, 3)
	for _, at := range []int{math.MinInt, -65536, -1, 3, 4, 65536, math.MaxInt} {
		if s, err := d.Read(at); err != api.ErrRange || s != (api.Sector{}) {
			t.Errorf("Read at %d: %v, %v", at, s, err)
		}
		if err := d.Write(at, filled(9)); err != api.ErrRange {
			t.Errorf("Write at %d: %v", at, err)
		}
		if err := d.Set(at, filled(9)); err != api.ErrRange {
			t.Errorf("Set at %d: %v", at, err)
		}
	}
	holds(t, d, filled(1), filled(0), filled(3))
	d.Crash([]byte{1, 0}) // what was refused is no write: the second one is that of the sector 2
	holds(t, d, filled(1), filled(0), filled(0))
}

// P4.1: what is written is seen at once, and lasts behind the next Sync alone.
func TestWriteLastsBehindSync(t *testing.T) {
	d := made(t, 2)
	write(t, d, 0, 1)
	holds(t, d, filled(1), filled(0))
	d.Crash(nil)
	holds(t, d, filled(0), filled(0))
	write(t, d, 0, 2)
	d.Sync()
	holds(t, d, filled(2), filled(0))
	d.Crash(nil)
	holds(t, d, filled(2), filled(0))
	write(t, d, 1, 3)
	write(t, d, 0, 4)
	write(t, d, 0, 5)
	holds(t, d, filled(5), filled(3))
	d.Sync()
	write(t, d, 0, 6)
	d.Crash([]byte{0})
	holds(t, d, filled(5), filled(3))
}

// P4.1: what is set lasts at once; what was written there and doesn't last is gone, and is no write that a crash counts.
func TestSet(t *testing.T) {
	d := made(t, 3)
	set(t, d, 0, 1)
	holds(t, d, filled(1), filled(0), filled(0))
	d.Crash(nil)
	holds(t, d, filled(1), filled(0), filled(0))

	write(t, d, 0, 2)
	write(t, d, 1, 3)
	write(t, d, 0, 4)
	set(t, d, 0, 5)
	holds(t, d, filled(5), filled(3), filled(0))
	write(t, d, 2, 6)
	d.Crash([]byte{1, 0}) // the first one left is that of the sector 1, the second one that of 2
	holds(t, d, filled(5), filled(3), filled(0))

	write(t, d, 0, 7)
	set(t, d, 0, 8)
	d.Sync()
	holds(t, d, filled(8), filled(3), filled(0))
}

// P4.1: a write behind a Set is one as any.
func TestWriteBehindSet(t *testing.T) {
	for p, want := range map[byte]api.Sector{0: filled(2), 1: filled(3), 5: torn(5, 3, 2)} {
		d := made(t, 1)
		write(t, d, 0, 1)
		set(t, d, 0, 2)
		write(t, d, 0, 3)
		holds(t, d, filled(3))
		d.Crash([]byte{p, 1})
		holds(t, d, want)
		d.Crash([]byte{1})
		holds(t, d, want)
	}
}

// P4.2: for each byte, what becomes of a write with that pick.
func TestCrashEachPick(t *testing.T) {
	for p := range 256 {
		d := made(t, 1)
		write(t, d, 0, 7)
		d.Sync()
		write(t, d, 0, 9)
		d.Crash([]byte{byte(p)})
		n := p % 64
		switch p % 3 {
		case 0:
			n = 0
		case 1:
			n = 64
		}
		holds(t, d, torn(n, 9, 7))
		d.Crash([]byte{1})
		holds(t, d, torn(n, 9, 7)) // all lasts by now
	}
}

// P4.2: the i-th write is picked by the byte at i modulo how many picks there are, or by 0.
func TestCrashPicksGoRound(t *testing.T) {
	for _, picks := range [][]byte{nil, {}, {0}, {1}, {0, 1}, {1, 0, 0}, {0, 1, 1, 0, 1}, {0, 0, 0, 0, 0, 0, 1, 1}, {1, 1, 1, 0, 0, 0, 0, 0, 1}} {
		d := made(t, 7)
		want := make([]api.Sector, 7)
		for i := range 7 {
			at := (i * 3) % 7 // the order in which they came counts, not where they are
			write(t, d, at, byte(i+1))
			if len(picks) > 0 && picks[i%len(picks)] == 1 {
				want[at] = filled(byte(i + 1))
			}
		}
		d.Crash(picks)
		holds(t, d, want...)
	}
}

// P4.2: of many writes of one sector each is picked for itself; what a torn one leaves is as it lasts by then.
func TestCrashWritesOfOneSector(t *testing.T) {
	for _, x := range []struct {
		picks []byte
		want  api.Sector
	}{
		{[]byte{1, 1, 1}, filled(3)},
		{[]byte{1, 1, 0}, filled(2)},
		{[]byte{1, 0, 0}, filled(1)},
		{[]byte{0, 1, 0}, filled(2)},
		{[]byte{1, 0, 5}, torn(5, 3, 1)},
		{[]byte{0, 1, 5}, torn(5, 3, 2)},
		{[]byte{1, 20, 0}, torn(20, 2, 1)},
		{[]byte{0, 0, 128}, filled(9)}, // 128 modulo 3 is 2, modulo 64 is 0
		{[]byte{0, 0, 191}, torn(63, 3, 9)},
	} {
		d := made(t, 1)
		set(t, d, 0, 9)
		for v := range 3 {
			write(t, d, 0, byte(v+1))
		}
		d.Crash(x.picks)
		holds(t, d, x.want)
	}
	d := made(t, 1)
	write(t, d, 0, 1)
	write(t, d, 0, 2)
	write(t, d, 0, 3)
	d.Crash([]byte{50, 20, 5})
	want := torn(50, 1, 0)
	for i := range 20 {
		want[i] = 2
	}
	for i := range 5 {
		want[i] = 3
	}
	holds(t, d, want)
}

// P4.2: only writes since the last Sync, the last Crash, the last Restore are picked.
func TestCrashCountsFromTheLastSync(t *testing.T) {
	for name, settle := range map[string]func(d *disk.Disk){
		"Sync":    func(d *disk.Disk) { d.Sync() },
		"Crash":   func(d *disk.Disk) { d.Crash([]byte{1}) },
		"Restore": func(d *disk.Disk) { d.Restore(d.Image()) },
	} {
		d := made(t, 3)
		write(t, d, 0, 1)
		settle(d)
		write(t, d, 1, 2)
		write(t, d, 2, 3)
		d.Crash([]byte{0, 1})
		if got := d.Image(); !slices.Equal(got, []api.Sector{filled(1), filled(0), filled(3)}) {
			t.Errorf("behind a %s: %v", name, got)
		}
	}
}

// P4.3: an image is what is seen; what is put back lasts, and nothing is left that doesn't.
func TestImageAndRestore(t *testing.T) {
	d := made(t, 2)
	write(t, d, 0, 1)
	old := d.Image()
	d.Sync()
	write(t, d, 0, 2)
	write(t, d, 1, 3)
	for _, wrong := range [][]api.Sector{nil, {}, old[:1], append(slices.Clone(old), api.Sector{})} {
		if err := d.Restore(wrong); err != api.ErrArg {
			t.Errorf("Restore of %d sectors: %v", len(wrong), err)
		}
		holds(t, d, filled(2), filled(3))
	}
	if err := d.Restore(old); err != api.OK {
		t.Errorf("Restore: %v", err)
	}
	holds(t, d, filled(1), filled(0))
	d.Sync()
	holds(t, d, filled(1), filled(0))
	d.Crash([]byte{1})
	holds(t, d, filled(1), filled(0))
}

// P4.3: a Restore that is refused leaves writes as they were.
func TestRestoreRefused(t *testing.T) {
	d := made(t, 2)
	write(t, d, 0, 1)
	write(t, d, 1, 2)
	if err := d.Restore(make([]api.Sector, 3)); err != api.ErrArg {
		t.Errorf("Restore: %v", err)
	}
	d.Crash([]byte{0, 1})
	holds(t, d, filled(0), filled(2))
}

// Rule 4: neither an image nor what is put back is shared with the disk.
func TestImagesAreTheirOwn(t *testing.T) {
	d := made(t, 2)
	write(t, d, 0, 1)
	one, two := d.Image(), d.Image()
	one[0] = filled(9)
	if two[0] != filled(1) {
		t.Error("two images share")
	}
	holds(t, d, filled(1), filled(0))
	if err := d.Restore(two); err != api.OK {
		t.Fatal(err)
	}
	two[1] = filled(8)
	holds(t, d, filled(1), filled(0))
	d.Crash(nil)
	holds(t, d, filled(1), filled(0))
	write(t, d, 1, 5)
	if two[1] != filled(8) {
		t.Error("what was put back is changed")
	}
	picks := []byte{1, 2, 0}
	d.Crash(picks)
	if !slices.Equal(picks, []byte{1, 2, 0}) {
		t.Error("picks are changed")
	}
}

// P4.4: there is power for n more writes and syncs, both counted.
func TestFuse(t *testing.T) {
	for n := range 5 {
		d := made(t, 3)
		d.Fuse(n)
		steps := []func(){
			func() { write(t, d, 0, 1) },
			d.Sync,
			func() { write(t, d, 1, 2) },
			func() { write(t, d, 0, 3) },
		}
		for i, step := range steps {
			if d.Dead() != (i >= n) {
				t.Errorf("Fuse of %d: behind %d steps: Dead %v", n, i, d.Dead())
			}
			step()
		}
		if d.Dead() != (n <= 4) {
			t.Errorf("Fuse of %d: at the end: Dead %v", n, d.Dead())
		}
		seen := [][]api.Sector{
			{filled(0), filled(0), filled(0)},
			{filled(1), filled(0), filled(0)},
			{filled(1), filled(0), filled(0)},
			{filled(1), filled(2), filled(0)},
			{filled(3), filled(2), filled(0)},
		}
		holds(t, d, seen[n]...)
		d.Crash(nil)
		lasts := filled(0)
		if n >= 2 { // the Sync was the second step
			lasts = filled(1)
		}
		holds(t, d, lasts, filled(0), filled(0))
	}
}

// P4.4: below 0 is as 0; a Write of no sector doesn't use the power; a Sync of nothing does.
func TestFuseEdges(t *testing.T) {
	for _, n := range []int{0, -1, math.MinInt} {
		d := made(t, 1)
		d.Fuse(n)
		if !d.Dead() {
			t.Errorf("Fuse of %d: there is power", n)
		}
		write(t, d, 0, 1)
		holds(t, d, filled(0))
	}
	d := made(t, 1)
	d.Fuse(1)
	for range 3 {
		if err := d.Write(1, filled(1)); err != api.ErrRange || d.Dead() {
			t.Errorf("Write of no sector: %v, Dead %v", err, d.Dead())
		}
	}
	d.Sync()
	if !d.Dead() {
		t.Error("a Sync uses no power")
	}
	for _, at := range []int{-1, 1} {
		if err := d.Write(at, filled(1)); err != api.ErrRange {
			t.Errorf("Write at %d without power: %v", at, err)
		}
	}
	d = made(t, 1)
	d.Fuse(math.MaxInt)
	write(t, d, 0, 1)
	d.Sync()
	if d.Dead() {
		t.Error("a long fuse: the power is gone")
	}
	d.Crash(nil)
	holds(t, d, filled(1))
}

// P4.4: without power all else goes on as ever, and all is as it was but for the writes and syncs.
func TestDead(t *testing.T) {
	d := made(t, 3)
	write(t, d, 0, 1)
	d.Fuse(0)
	write(t, d, 0, 2)
	write(t, d, 1, 3)
	d.Sync()
	holds(t, d, filled(1), filled(0), filled(0))
	set(t, d, 2, 4)
	holds(t, d, filled(1), filled(0), filled(4))
	old := d.Image()
	d.Crash(nil) // the Sync has done nothing
	holds(t, d, filled(0), filled(0), filled(4))

	d.Fuse(-5)
	if err := d.Restore(old); err != api.OK || !d.Dead() {
		t.Errorf("Restore: %v, Dead %v", err, d.Dead())
	}
	holds(t, d, filled(1), filled(0), filled(4))
	write(t, d, 1, 3)
	d.Crash([]byte{1})
	holds(t, d, filled(1), filled(0), filled(4))
}

// P4.4: writes without power aren't counted by a crash.
func TestDeadWritesAreNoWrites(t *testing.T) {
	d := made(t, 3)
	d.Fuse(2)
	write(t, d, 0, 1)
	write(t, d, 1, 2)
	write(t, d, 2, 3)
	write(t, d, 1, 4)
	d.Crash([]byte{0, 1, 1, 1})
	holds(t, d, filled(0), filled(2), filled(0))
}

// P4.4: a crash lets there be power without end, whether it was gone or was to go.
func TestCrashGivesPower(t *testing.T) {
	for n := range 3 {
		d := made(t, 1)
		d.Fuse(n)
		write(t, d, 0, 1)
		d.Crash(nil)
		for v := range 20 {
			write(t, d, 0, byte(v))
			d.Sync()
			if d.Dead() {
				t.Fatalf("Fuse of %d: dead behind a crash", n)
			}
		}
		holds(t, d, filled(19))
	}
}

// P4.4: the last Fuse tells, whether there is power or not.
func TestFuseAgain(t *testing.T) {
	for _, first := range []int{0, 1, 9} {
		d := made(t, 1)
		d.Fuse(first)
		d.Fuse(2)
		write(t, d, 0, 1)
		if d.Dead() {
			t.Errorf("Fuse of %d, and of 2: dead behind one write", first)
		}
		d.Sync()
		if !d.Dead() {
			t.Errorf("Fuse of %d, and of 2: there is power behind two", first)
		}
		holds(t, d, filled(1))
	}
}

// plain is the disk told once more: all that waits is a list, and what lasts is worked out from it.
type plain struct {
	lasting []api.Sector
	ats     []int
	sectors []api.Sector
	power   int // below 0: without end
}

func (p *plain) seen() []api.Sector {
	out := slices.Clone(p.lasting)
	for i, at := range p.ats {
		out[at] = p.sectors[i]
	}
	return out
}

func (p *plain) spend() bool {
	if p.power > 0 {
		p.power--
		return true
	}
	return p.power < 0
}

func (p *plain) crash(picks []byte) {
	for i, at := range p.ats {
		b := byte(0)
		if len(picks) > 0 {
			b = picks[i%len(picks)]
		}
		for j := range p.lasting[at] {
			if b%3 == 1 || b%3 == 2 && j < int(b%64) {
				p.lasting[at][j] = p.sectors[i][j]
			}
		}
	}
	p.ats, p.sectors, p.power = nil, nil, -1
}

func (p *plain) set(at int, s api.Sector) {
	for i := len(p.ats) - 1; i >= 0; i-- {
		if p.ats[i] == at {
			p.ats, p.sectors = slices.Delete(p.ats, i, i+1), slices.Delete(p.sectors, i, i+1)
		}
	}
	p.lasting[at] = s
}

// step does one thing to a disk and to the plain one.
func step(r *rand.Rand, d *disk.Disk, p *plain) {
	at, s := r.IntN(d.Len()), filled(byte(r.IntN(256)))
	s[r.IntN(64)] = byte(r.IntN(256))
	switch k := r.IntN(40); {
	case k < 25:
		if d.Write(at, s); p.spend() {
			p.ats, p.sectors = append(p.ats, at), append(p.sectors, s)
		}
	case k < 28:
		if d.Sync(); p.spend() {
			p.lasting = p.seen()
			p.ats, p.sectors = nil, nil
		}
	case k < 33:
		d.Set(at, s)
		p.set(at, s)
	case k < 36:
		picks := make([]byte, r.IntN(9))
		for i := range picks {
			picks[i] = byte(r.IntN(256))
		}
		d.Crash(picks)
		p.crash(picks)
	case k < 39:
		n := r.IntN(12) - 1
		d.Fuse(n)
		p.power = max(n, 0)
	default:
		image := make([]api.Sector, d.Len())
		image[at] = s
		d.Restore(image)
		p.lasting, p.ats, p.sectors = slices.Clone(image), nil, nil
	}
}

// P4.1 to P4.4: whatever is called, in whatever order, it is as the plain one tells.
func TestAgainstPlain(t *testing.T) {
	for seed := range uint64(60) {
		r := rand.New(rand.NewPCG(seed, 4))
		n := 1 + r.IntN(6)
		d, p := made(t, n), &plain{lasting: make([]api.Sector, n), power: -1}
		for i := range 400 {
			step(r, d, p)
			if !slices.Equal(d.Image(), p.seen()) || d.Dead() != (p.power == 0) || d.Len() != n {
				t.Fatalf("seed %d, step %d: %v, not %v", seed, i, d.Image(), p.seen())
			}
		}
	}
}

// P2: disks have nothing in common; the same calls give the same answers, also at one time.
func TestDisksAreTheirOwn(t *testing.T) {
	images := make([][]api.Sector, 8)
	var all sync.WaitGroup
	for i := range images {
		all.Go(func() {
			r := rand.New(rand.NewPCG(1, 1))
			d, _ := disk.New(5)
			p := &plain{lasting: make([]api.Sector, 5), power: -1}
			for range 300 {
				step(r, d, p)
			}
			images[i] = d.Image()
		})
	}
	all.Wait()
	for _, image := range images[1:] {
		if !slices.Equal(image, images[0]) {
			t.Error("the same calls give other answers")
		}
	}
}

// P1: many writes that wait, and many sectors set, end in good time.
func TestManyWrites(t *testing.T) {
	d := made(t, api.MaxSectors)
	for at := range d.Len() {
		write(t, d, at, 1)
	}
	for at := range d.Len() - 1 {
		set(t, d, at, 2)
	}
	d.Crash([]byte{1, 0})
	want := slices.Repeat([]api.Sector{filled(2)}, d.Len())
	want[d.Len()-1] = filled(1)
	if !slices.Equal(d.Image(), want) {
		t.Error("not as set")
	}
}
