package slots_test

import (
	"math/rand/v2"
	"slices"
	"sync"
	"testing"

	"sporran/api"
	"sporran/disk"
	"sporran/slots"
)

// near gives a number of 0 to most, often at its bounds; and, one time of a hundred each, one beyond them or below 0.
func near(r *rand.Rand, most int) int {
	switch r.IntN(100) {
	case 0:
		return most + 1 + int(r.Uint64()>>(1+r.IntN(63)))/2
	case 1:
		return -1 - int(r.Uint64()>>(1+r.IntN(63)))
	case 2, 3, 4:
		return most
	case 5, 6, 7:
		return 0
	}
	return r.IntN(most)
}

// randomDigest gives one of a few, the zero one among them.
func randomDigest(r *rand.Rand) api.Digest {
	if i := r.IntN(6); i > 0 {
		return digest(i)
	}
	return api.Digest{}
}

func randomRef(r *rand.Rand) api.Ref {
	return api.Ref{Digest: randomDigest(r), At: near(r, 65535), Len: near(r, 65536)}
}

// randomSector gives one that almost tells a Ref.
func randomSector(r *rand.Rand) api.Sector {
	s := told(randomRef(r))
	for range r.IntN(3) {
		switch i := r.IntN(64); r.IntN(4) {
		case 0:
			s[i] = byte(r.Uint32())
		case 1:
			s[33+i%8] ^= 1 << r.IntN(8)
		case 2:
			copy(s[i:], s[min(i+1, 63):])
		case 3:
			s[i] = 0
		}
	}
	return s
}

// step does one thing on a disk and on the plain one, and tells whether they answer the same.
func step(r *rand.Rand, d *disk.Disk, p plain, count map[api.Errno]int) bool {
	switch r.IntN(4) {
	case 0:
		epoch, one := r.Uint64()>>r.IntN(64), randomRef(r)
		err := slots.Write(d, epoch, one)
		count[err]++
		return err == p.write(epoch, one)
	case 1:
		at, s := r.IntN(d.Len()), randomSector(r)
		d.Set(at, s)
		p[at] = s
	case 2:
		slot := r.IntN(5) - 1
		got, ok := slots.Read(d, slot)
		want, right := p.read(slot)
		return got == want && ok == right
	case 3:
		digest := randomDigest(r)
		got, err := slots.Find(d, digest)
		want, wantErr := p.find(digest)
		count[err]++
		return got == want && err == wantErr
	}
	return true
}

// P14.1, P14.2: whatever is written, changed, read and sought, in whatever order: it is as the plain disk tells.
func TestAgainstPlain(t *testing.T) {
	count := map[api.Errno]int{}
	for seed := range uint64(300) {
		r := rand.New(rand.NewPCG(seed, 14))
		p := make(plain, 1+r.IntN(4))
		d := full(t, len(p), 0)
		for i := range 300 {
			if !step(r, d, p, count) {
				t.Fatalf("seed %d, step %d: another answer", seed, i)
			}
			if !slices.Equal(d.Image(), p) {
				t.Fatalf("seed %d, step %d: another disk", seed, i)
			}
		}
	}
	for _, err := range []api.Errno{api.OK, api.ErrArg, api.ErrRange, api.ErrTampered} {
		if count[err] < 100 {
			t.Errorf("%v is answered %d times", err, count[err])
		}
	}
}

// P14.1: of random sectors that almost tell a Ref just those do of which the plain telling says so, and both ways there are many.
func TestRandomSectors(t *testing.T) {
	r := rand.New(rand.NewPCG(14, 1))
	d := full(t, 2, 0)
	var count [2]int
	for range 100000 {
		if agrees(t, d, randomSector(r)) {
			count[0]++
		} else {
			count[1]++
		}
	}
	if min(count[0], count[1]) < 1000 {
		t.Errorf("%v", count)
	}
}

// P2: nothing is kept beside the disk; the same calls give the same answers, also at one time.
func TestDisksAreTheirOwn(t *testing.T) {
	same := make([]bool, 8)
	var all sync.WaitGroup
	for i := range same {
		all.Go(func() {
			r := rand.New(rand.NewPCG(uint64(i/2), 2))
			d, _ := disk.New(2)
			p := make(plain, 2)
			same[i] = true
			for range 300 {
				same[i] = step(r, d, p, map[api.Errno]int{}) && same[i]
			}
		})
	}
	all.Wait()
	if slices.Contains(same, false) {
		t.Error("disks at one time give other answers")
	}
}
