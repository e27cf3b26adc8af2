package model_test

import (
	"math/rand/v2"
	"slices"
	"strconv"
	"sync"
	"testing"

	"sporran/api"
	"sporran/model"
)

// randomOp gives one that is often OK, with fields that are nothing to it.
func randomOp(r *rand.Rand) api.Op {
	kinds := []int{1, 1, 2, 3, 3, 3, 3, 3, 3, 4, 4, 5, 5, 5, 6, 7, 7, 8, 0, 9}
	names := []string{"a", "a", "a", "b", "b", "b", "c", "c", "d", "e", "a b", ""}
	return api.Op{
		Kind:   kinds[r.IntN(len(kinds))],
		Name:   names[r.IntN(len(names))],
		Other:  names[r.IntN(len(names))],
		Number: []int{0, 1, 2, 3, 4, 127, 128, api.MaxBlocks - 1, api.MaxBlocks, -1}[r.IntN(10)],
		Quota:  []int{-1, 0, 1, 2, 3, 5, 8, api.MaxBlocks, api.MaxBlocks + 1}[r.IntN(9)],
		Block:  at(r.IntN(3), byte(r.IntN(3))),
	}
}

// P15.1: whatever is done, in whatever order, it is answered as layer 12 has it, and nothing changes beside an error.
func TestAgainstPlain(t *testing.T) {
	count := map[api.Errno]int{}
	for seed := range uint64(100) {
		r := rand.New(rand.NewPCG(seed, 15))
		m, p := model.New(), newPlain()
		for i := range 400 {
			o, was := randomOp(r), m.Images()
			got, want := m.Do(o), p.do(o)
			if !sameAnswer(got, want) {
				t.Fatalf("seed %d, step %d: %v: %v, not %v", seed, i, o, got, want)
			}
			count[got.Err]++
			is := m.Images()
			if !sameImages(is, p.images()) || m.Distinct() != p.distinct() {
				t.Fatalf("seed %d, step %d: %v: other volumes", seed, i, o)
			}
			if (got.Err != api.OK || !model.Changes(o.Kind)) && !sameImages(is, was) {
				t.Fatalf("seed %d, step %d: %v: %v, and something has changed", seed, i, o, got)
			}
		}
		holds(t, m, p)
	}
	for _, err := range []api.Errno{api.OK, api.ErrArg, api.ErrRange, api.ErrNone, api.ErrThere, api.ErrQuota, api.ErrFrozen} {
		if count[err] < 100 {
			t.Errorf("%v is answered %d times", err, count[err])
		}
	}
}

// P2: models have nothing in common, whatever is done on them at one time; the same operations give the same answers.
func TestModelsAreTheirOwn(t *testing.T) {
	same := make([]bool, 8)
	var all sync.WaitGroup
	for i := range same {
		all.Go(func() {
			r := rand.New(rand.NewPCG(uint64(i/2), 2))
			m, p := model.New(), newPlain()
			same[i] = true
			for range 300 {
				o := randomOp(r)
				same[i] = sameAnswer(m.Do(o), p.do(o)) && same[i]
			}
			same[i] = same[i] && sameImages(m.Images(), p.images()) && m.Distinct() == p.distinct()
		})
	}
	all.Wait()
	if slices.Contains(same, false) {
		t.Error("models at one time give other answers")
	}
}

// P1: a volume of all blocks that it may have has no room for more, and is copied, told and counted in good time.
func TestAllBlocks(t *testing.T) {
	m := model.New()
	do := func(o api.Op, want api.Errno) {
		t.Helper()
		if got := m.Do(o); !sameAnswer(got, api.Answer{Err: want}) {
			t.Fatalf("%v: %v", o, got)
		}
	}
	do(create("all", api.MaxBlocks), api.OK)
	for number := range api.MaxBlocks {
		do(write("all", number, at(number%api.BlockBytes, byte(1+number%255))), api.OK)
	}
	do(write("all", api.MaxBlocks, block(1)), api.ErrRange)
	do(clone("all", "few", api.MaxBlocks-1), api.ErrQuota)
	do(snapshot("all", "snap"), api.OK)
	if got := m.Distinct(); got != 16*255 { // behind so many numbers place and byte are the first ones again
		t.Errorf("Distinct: %d", got)
	}
	for number := range api.MaxBlocks {
		do(trim("all", number), api.OK)
	}
	images := m.Images()
	if len(images) != 2 || len(images[0].Blocks) != 0 || len(images[1].Blocks) != api.MaxBlocks {
		t.Errorf("%d volumes", len(images))
	}
}

// P1: many volumes come and go in good time.
func TestMany(t *testing.T) {
	const volumes = 2000
	m, p := model.New(), newPlain()
	for i := range volumes {
		name := strconv.Itoa(i)
		errs(t, m, p, create(name, 3), api.OK)
		for k := range 3 {
			errs(t, m, p, write(name, k*k, block(i%100)), api.OK)
		}
	}
	holds(t, m, p)
	if got := m.Distinct(); got != 100 {
		t.Errorf("Distinct: %d", got)
	}
	for i := range volumes {
		errs(t, m, p, remove(strconv.Itoa(i)), api.OK)
	}
	holds(t, m, p)
}
