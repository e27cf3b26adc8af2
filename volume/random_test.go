package volume_test

import (
	"bytes"
	"math/rand/v2"
	"slices"
	"strconv"
	"sync"
	"testing"

	"sporran/api"
	"sporran/volume"
)

// tried is an answer of a block's call.
type tried struct {
	finger api.Digest
	there  bool
	err    api.Errno
}

func answer(finger api.Digest, there bool, err api.Errno) tried { return tried{finger, there, err} }

// step does one thing, on both, and tells whether they answer the same.
func step(r *rand.Rand, s *volume.Set, p *plain) bool {
	name := []string{"a", "b", "c", "d", "e", "a b"}[min(r.IntN(7), 5)]
	other := []string{"a", "b", "c", "d", "e", ""}[min(r.IntN(7), 5)]
	number := []int{0, 1, 2, 3, 4, 127, 128, api.MaxBlocks - 1, api.MaxBlocks, -1}[r.IntN(10)]
	quota := []int{-1, 0, 1, 2, 3, 5, 8, api.MaxBlocks}[r.IntN(8)]
	f := finger(r.IntN(5))
	switch r.IntN(12) {
	case 0:
		return s.Create(name, quota) == p.create(name, quota)
	case 1, 2:
		frozen := r.IntN(2) == 0
		return s.Copy(name, other, quota, frozen) == p.copy(name, other, quota, frozen)
	case 3:
		return s.Delete(name) == p.delete(name)
	case 4, 5, 6, 7:
		return answer(s.Put(name, number, f)) == answer(p.put(name, number, f))
	case 8, 9:
		return answer(s.Drop(name, number)) == answer(p.drop(name, number))
	default:
		return answer(s.Get(name, number)) == answer(p.get(name, number))
	}
}

// P12.1 to P12.4: whatever is called, in whatever order, it is as the plain one tells; and so are the twins that were made meanwhile.
func TestAgainstPlain(t *testing.T) {
	for seed := range uint64(60) {
		r := rand.New(rand.NewPCG(seed, 12))
		s, p := volume.New(), &plain{}
		twins := map[*volume.Set]*plain{}
		for i := range 300 {
			if !step(r, s, p) {
				t.Fatalf("seed %d, step %d: %v: another answer", seed, i, p)
			}
			if r.IntN(20) == 0 {
				holds(t, s, p, "a", "b", "a b")
				agrees(t, s.Encode())
			}
			if r.IntN(40) == 0 {
				twins[s.Twin()] = p.twin()
			}
			if other, err := volume.Decode(s.Encode()); err != api.OK {
				t.Fatalf("seed %d, step %d: Decode of Encode: %v", seed, i, err)
			} else if r.IntN(20) == 0 {
				s = other // and goes on as that
			}
		}
		twins[s] = p
		for w, q := range twins {
			holds(t, w, q, "a", "b")
		}
	}
}

// P2: the same volumes give the same answers, in whatever order they came, and whatever came between.
func TestSameWhateverTheOrder(t *testing.T) {
	p := some()
	want := encoded(p.all())
	root := p.trie().Root()
	for seed := range uint64(20) {
		r := rand.New(rand.NewPCG(seed, 5))
		q := p.twin()
		r.Shuffle(len(q.rows), func(i, k int) { q.rows[i], q.rows[k] = q.rows[k], q.rows[i] })
		for _, v := range q.rows {
			r.Shuffle(len(v.Cells), func(i, k int) { v.Cells[i], v.Cells[k] = v.Cells[k], v.Cells[i] })
		}
		s := laid(t, q)
		for i := range r.IntN(5) {
			s.Create(strconv.Itoa(i), 9)
			s.Put(strconv.Itoa(i), i, finger(i))
			s.Delete(strconv.Itoa(i))
		}
		if !bytes.Equal(s.Encode(), want) || !same(s.All(), p.all()) || s.Trie().Root() != root {
			t.Fatalf("seed %d: other answers", seed)
		}
	}
}

// P2: sets have nothing in common, and twins neither, whatever is asked of them at one time.
func TestSetsAreTheirOwn(t *testing.T) {
	p := some()
	first := laid(t, p)
	twins := []*volume.Set{first}
	for range 7 {
		twins = append(twins, first.Twin())
	}
	alike := make([]bool, len(twins))
	var all sync.WaitGroup
	for i, s := range twins {
		all.Go(func() {
			q := p.twin()
			r := rand.New(rand.NewPCG(uint64(i/2), 1))
			alike[i] = true
			for range 200 {
				alike[i] = step(r, s, q) && alike[i]
			}
			alike[i] = alike[i] && bytes.Equal(s.Encode(), encoded(q.all())) && s.Trie().Root() == q.trie().Root()
		})
	}
	all.Wait()
	if slices.Contains(alike, false) {
		t.Error("sets at one time give other answers")
	}
}

// P1: many volumes and blocks, there and back, with their trie, end in good time.
func TestMany(t *testing.T) {
	const volumes, blocks = 2000, 10
	s := volume.New()
	for i := range volumes {
		s.Create(strconv.Itoa(i), blocks)
		for k := range blocks {
			put(t, s, strconv.Itoa(i), k*k, finger(k), api.Digest{}, false, api.OK)
		}
	}
	other, err := volume.Decode(s.Encode())
	if err != api.OK || !same(s.All(), other.All()) {
		t.Fatalf("there and back: %v", err)
	}
	x := other.Trie()
	if got := len(x.Keys()); got != volumes*blocks || x.Root() != s.Twin().Trie().Root() {
		t.Errorf("%d keys", got)
	}
	for i := range volumes {
		if err := other.Delete(strconv.Itoa(i)); err != api.OK {
			t.Fatalf("Delete %d: %v", i, err)
		}
	}
	holds(t, other, &plain{}, "1")
}
