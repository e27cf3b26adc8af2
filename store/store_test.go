package store_test

import (
	"math"
	"strings"
	"testing"

	"sporran/api"
	"sporran/proof"
)

// The examples 1, 2 and 6 of the whole.
func TestExamplesOfTheWhole(t *testing.T) {
	r := newRig(t, 200)
	r.do(create("a", 9), create("b", 9), write("a", 1, 5), write("b", 2, 5))
	r.flush(api.OK)
	r.counts(1, r.s.Room()) // one block stands once

	r.do(snapshot("a", "s"), write("a", 1, 6), write("a", 3, 7))
	for range 2 {
		if a := r.s.Do(read("s", 1)); !a.There || a.Block != block(5) {
			t.Errorf("%v", a)
		}
		if a := r.s.Do(read("s", 3)); a.There || a.Err != api.OK {
			t.Errorf("%v", a)
		}
		if a := r.s.Do(write("s", 1, 6)); a.Err != api.ErrFrozen {
			t.Errorf("%v", a)
		}
		r.flush(api.OK)
		r.mount()
	}

	r.do(trim("a", 1))
	r.flush(api.OK)
	r.counts(3, r.s.Room())
	_, root := r.s.State()
	r.collect(api.OK)
	r.counts(2, r.s.Room())
	if _, same := r.s.State(); same != root {
		t.Error("a Collect has changed the state")
	}
	r.holds()
}

// P1, P16.1: any kind, any number and any text is answered as the model answers it, whether the blocks stand in bins or are fresh.
func TestAnyArguments(t *testing.T) {
	texts := []string{"", "a", "s", "x", " ", "\x00", "\xff", "é", strings.Repeat("n", 20), strings.Repeat("n", 21), strings.Repeat("~", 5000)}
	numbers := []int{math.MinInt, math.MinInt32, -1, 0, 1, api.MaxBlocks - 1, api.MaxBlocks, math.MaxInt32, math.MaxInt}
	r := newRig(t, 3000)
	r.do(create("a", 3), write("a", 0, 1), snapshot("a", "s"))
	for _, kind := range []int{math.MinInt, -1, 0, 1, 2, 3, 4, 5, 6, 7, 8, 9, 300, math.MaxInt} {
		for _, name := range texts {
			for i, other := range texts {
				for k, number := range numbers {
					r.both(api.Op{Kind: kind, Name: name, Other: other, Number: number, Quota: numbers[(k+i)%len(numbers)], Block: block(byte(k))})
				}
			}
		}
		r.s.Flush() // perhaps the events have too many bytes
		for _, o := range []api.Op{create("a", 3), write("a", 0, 1), snapshot("a", "s"), trim("a", 1)} {
			r.both(o)
		}
	}
	r.holds()
	_, root := r.s.State()
	for _, name := range texts {
		for _, number := range numbers {
			nodes, err := r.s.Prove(name, number)
			if _, _, shown := proof.Check(root, key(name, number), nodes); err != api.OK || shown != api.OK {
				t.Errorf("Prove of %q %d: %v, %v", name, number, err, shown)
			}
		}
	}
}

// P16.1: names are told rising by their bytes, and only those that there are.
func TestList(t *testing.T) {
	r := newRig(t, 100)
	for _, name := range []string{"b", "a", "~", "B", "aa", "!"} {
		r.do(create(name, 1))
		r.both(list())
	}
	r.flush(api.OK)
	r.mount()
	if a := r.both(list()); strings.Join(a.Names, " ") != "! B a aa b ~" {
		t.Errorf("%v", a)
	}
	r.do(remove("aa"), snapshot("b", "A"))
	r.both(list())
}

// P2, rule 4: what is answered is new memory.
func TestNamesAreNewMemory(t *testing.T) {
	r := newRig(t, 100)
	r.do(create("a", 1), create("b", 1))
	r.s.Do(list()).Names[0] = "other"
	r.both(list())
}
