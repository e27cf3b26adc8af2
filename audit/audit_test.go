package audit_test

import (
	"bytes"
	"fmt"
	"math"
	"slices"
	"testing"

	"sporran/api"
	"sporran/audit"
	"sporran/commit"
)

// P17.1, the chapter's example: no commits.
func TestNoCommits(t *testing.T) {
	for _, rows := range [][][]byte{nil, {}} {
		tells(t, audit.Story{}, 0, api.Digest{}, rows)
		refuses(t, "a root", 0, api.Digest{31: 1}, rows)
		refuses(t, "a root", 0, tagged(3), rows)
		for _, counter := range []uint64{1, 1 << 32, 1 << 63, math.MaxUint64} {
			refuses(t, "a counter", counter, api.Digest{}, rows)
			refuses(t, "a counter", counter, finger(1), rows)
		}
	}
}

// P17.1: two commits, said byte by byte.
func TestCheckByHand(t *testing.T) {
	digests := func(n int) []byte { return bytes.Repeat([]byte{byte(n)}, 32) }
	first := slices.Concat([]byte{1}, make([]byte, 34), digests(7), []byte{3, 9}, digests(8), []byte{4, 10},
		[]byte{0}, digests(5), []byte{2, 3}, []byte("one"), []byte{0})
	digest := tagged(3, first)
	second := slices.Concat([]byte{2}, digest[:], []byte{5, 111}, digests(7), []byte{3, 9}, digests(8), []byte{4, 10},
		[]byte{0}, digests(6), []byte{1, 3}, []byte("two"))
	want := audit.Story{
		Epoch:  2,
		States: []api.Digest{api.Digest(digests(5)), api.Digest(digests(6))},
		Events: [][]byte{[]byte("one"), nil, []byte("two")},
	}
	tells(t, want, 2, tagged(3, second), [][]byte{second, first})
	tells(t, audit.Story{Epoch: 1, States: want.States[:1], Events: want.Events[:2]}, 1, digest, [][]byte{first})
	refuses(t, "the first one first", 2, tagged(3, second), [][]byte{first, second})
	refuses(t, "the first one's root", 2, digest, [][]byte{first, second})
	refuses(t, "the second one alone", 1, tagged(3, second), [][]byte{second})
	refuses(t, "the second one alone", 2, tagged(3, second), [][]byte{second})
	refuses(t, "the second one twice", 2, tagged(3, second), [][]byte{second, second})
	refuses(t, "without layer 7's use", 1, tagged(4, first), [][]byte{first})
}

// P17.1: chains of many lengths; states and events with those of epoch 1 first.
func TestCheck(t *testing.T) {
	for _, n := range []int{1, 2, 3, 4, 5, 10, 127, 128, 2000} {
		ch := linked(t, some(n)...)
		tells(t, ch.told(), uint64(n), ch.root(), ch.handed())
	}
}

// P17.1: just as many commits as the counter tells.
func TestHowMany(t *testing.T) {
	ch := linked(t, some(5)...)
	rows := ch.handed()
	for _, counter := range []uint64{0, 1, 4, 6, 7, 5 + 1<<32, 5 + 1<<63, math.MaxUint64} {
		refuses(t, fmt.Sprint("the counter ", counter), counter, ch.root(), rows)
	}
	refuses(t, "a commit and no counter", 0, api.Digest{}, rows[4:])
	for n := range 5 {
		refuses(t, fmt.Sprint("the first ", n), 5, ch.root(), rows[:n])
		refuses(t, fmt.Sprint("the first ", n), uint64(n), ch.root(), rows[:n])
		refuses(t, fmt.Sprint("without ", n), 5, ch.root(), slices.Delete(slices.Clone(rows), n, n+1))
		refuses(t, fmt.Sprint("without ", n), 4, ch.root(), slices.Delete(slices.Clone(rows), n, n+1))
		refuses(t, fmt.Sprint("twice ", n), 6, ch.root(), slices.Insert(slices.Clone(rows), n, rows[n]))
		refuses(t, fmt.Sprint("another one for ", n), 5, ch.root(), slices.Replace(slices.Clone(rows), n, n+1, rows[(n+1)%5]))
		refuses(t, fmt.Sprint("empty ", n), 6, ch.root(), slices.Insert(slices.Clone(rows), n, []byte{}))
	}
	refuses(t, "one more", 6, ch.root(), append(slices.Clone(rows), rows[4]))
	tells(t, ch.told(), 5, ch.root(), rows)
	for n := 1; n < 5; n++ { // what was told of the epochs ahead is a story of its own
		ahead := linked(t, some(n)...)
		tells(t, ahead.told(), uint64(n), ch.commits[n].Prev.Digest, rows[5-n:])
	}
}

// P17.1: each commit has the digest that is wanted.
func TestDigests(t *testing.T) {
	ch := linked(t, some(4)...)
	for bit := range 256 {
		root := ch.root()
		root[bit/8] ^= 1 << (bit % 8)
		refuses(t, fmt.Sprint("the root's bit ", bit), 4, root, ch.handed())
	}
	for n := range 3 {
		refuses(t, "another one's digest", 4, tagged(3, ch.rows[n]), ch.handed())
	}
	refuses(t, "no root", 4, api.Digest{}, ch.handed())
	for n := range 3 { // a Prev with another digest, under commits that all fit
		for at := range 32 {
			c := ch.commits[n+1]
			c.Prev.Digest[at]++
			other := linked(t, append(slices.Clone(ch.commits[:n+1]), c)...)
			other.rows[n+1], _ = commit.Encode(c) // linked has mended it
			refuses(t, fmt.Sprint("the digest in ", n+1), uint64(n+2), other.root(), other.handed())
		}
	}
	for n := range 4 { // a commit that would do, but for its digest
		c := ch.commits[n]
		c.State[0]++
		rows := slices.Clone(ch.rows)
		rows[n], _ = commit.Encode(c)
		slices.Reverse(rows)
		refuses(t, fmt.Sprint("another state in ", n), 4, ch.root(), rows)
	}
}

// P17.1, P17.3: whatever byte of whatever commit is changed, taken out or put in, it is found out.
func TestEachByte(t *testing.T) {
	ch := linked(t, some(4)...)
	for n := range 4 {
		for at := range ch.handed()[n] {
			for _, change := range []func(b []byte) []byte{
				func(b []byte) []byte { b[at]++; return b },
				func(b []byte) []byte { b[at] ^= 128; return b },
				func(b []byte) []byte { return slices.Delete(b, at, at+1) },
				func(b []byte) []byte { return slices.Insert(b, at, b[at]+1) },
				func(b []byte) []byte { return b[:at] },
			} {
				rows := copied(ch.handed())
				rows[n] = change(rows[n])
				refuses(t, fmt.Sprint("commit ", n, " byte ", at), 4, ch.root(), rows)
			}
		}
		rows := copied(ch.handed())
		rows[n] = append(rows[n], 0)
		refuses(t, "a byte more", 4, ch.root(), rows)
	}
}

// P17.1: a commit that can't be decoded, though its digest is the one that is wanted.
func TestNoCommit(t *testing.T) {
	ch := linked(t, some(3)...)
	good := ch.rows[2]
	for what, b := range map[string][]byte{
		"no bytes":             {},
		"a byte":               {3},
		"a byte more":          append(bytes.Clone(good), 0),
		"a byte less":          good[:len(good)-1],
		"epoch 3 as two bytes": slices.Concat([]byte{131, 0}, good[1:]),
		"too many bytes":       append(bytes.Clone(good), make([]byte, api.MaxBlob)...),
	} {
		rows := [][]byte{b, ch.rows[1], ch.rows[0]}
		refuses(t, what, 3, tagged(3, b), rows)
	}
	zero := slices.Concat([]byte{0}, ch.rows[0][1:]) // of epoch 0
	refuses(t, "epoch 0", 1, tagged(3, zero), [][]byte{zero})
	c := ch.commits[1]
	c.Prev.Digest = tagged(3, zero)
	b, _ := commit.Encode(c)
	refuses(t, "epoch 0", 2, tagged(3, b), [][]byte{b, zero})
}

// P17.1: epochs fall by one, from the counter to 1.
func TestEpochs(t *testing.T) {
	for what, epochs := range map[string][]uint64{
		"one":          {2},
		"the last one": {math.MaxUint64},
		"a 256th more": {257},
		"twice":        {1, 1},
		"both one off": {2, 3},
		"the first":    {2, 2},
		"the second":   {1, 3},
		"a gap":        {1, 2, 4},
		"a gap, first": {1, 3, 4},
		"not the last": {1, 2, 4, 4},
		"rising":       {3, 2, 1},
		"a middle one": {1, 3, 3},
		"a fall":       {1, 2, 1},
		"great ones":   {1<<63 + 1, 1<<63 + 2},
	} {
		commits := some(len(epochs))
		for i := range commits {
			commits[i].Epoch = epochs[i]
		}
		ch := linked(t, commits...)
		refuses(t, what, uint64(len(epochs)), ch.root(), ch.handed())
		refuses(t, what, epochs[len(epochs)-1], ch.root(), ch.handed())
	}
}

// P17.1: nothing is ahead of epoch 1: each part of its Prev is zero.
func TestLastPrev(t *testing.T) {
	for _, prev := range []api.Ref{{At: 1}, {Len: 1}, {At: api.MaxSectors - 1, Len: api.MaxBlob}, {Digest: api.Digest{1}}, {Digest: api.Digest{31: 1}}, {Digest: tagged(3), At: 2}} {
		for n := 1; n < 4; n++ {
			commits := some(n)
			commits[0].Prev = prev
			ch := linked(t, commits...)
			refuses(t, fmt.Sprint(prev), uint64(n), ch.root(), ch.handed())
		}
	}
	ch := linked(t, some(3)...) // more commits ahead than the counter tells
	two := ch.handed()[:2]
	refuses(t, "a counter less", 2, ch.root(), two)
}

// P17.1: where a commit stood, and how many bytes it had, nobody asks for: by its digest it is known.
func TestPrevAsToPlaces(t *testing.T) {
	for _, ref := range []api.Ref{{}, {At: 65535}, {Len: 65536}} {
		commits := some(3)
		commits[1].Prev, commits[2].Prev = ref, ref
		ch := linked(t, commits...)
		tells(t, ch.told(), 3, ch.root(), ch.handed())
	}
}

// P17.1: what a commit tells beside epoch, Prev, state and events is nothing to the story; the greatest numbers are taken.
func TestAllElse(t *testing.T) {
	most := api.Ref{Digest: finger(1), At: api.MaxSectors - 1, Len: api.MaxBlob}
	bins := []api.Bin{{Number: 0}, {Number: math.MaxInt32, At: api.MaxSectors - 1, Count: api.MaxSectors, Root: finger(2)}}
	commits := []api.Commit{
		{Epoch: 1, Volumes: most, Index: most, Bins: bins},
		{Epoch: 2, Bins: bins[:1], State: finger(3), Events: [][]byte{make([]byte, 60000)}},
	}
	ch := linked(t, commits...)
	tells(t, ch.told(), 2, ch.root(), ch.handed())
}

// P17.1: commits that are as great as may be, with as many events as fit.
func TestGreatCommits(t *testing.T) {
	events := make([][]byte, api.MaxBlob-(1+3*34+1+32+3))
	ch := linked(t, api.Commit{Epoch: 1, Events: events}, api.Commit{Epoch: 2, Events: events})
	if len(ch.rows[0]) != api.MaxBlob || len(ch.rows[1]) != api.MaxBlob {
		t.Fatalf("%d, %d bytes", len(ch.rows[0]), len(ch.rows[1]))
	}
	tells(t, ch.told(), 2, ch.root(), ch.handed())
}

// Rule 4: what is handed in isn't changed, nor kept; what is answered is new memory.
func TestNewMemory(t *testing.T) {
	ch := linked(t, some(6)...)
	rows := copied(ch.handed())
	s, err := audit.Check(6, ch.root(), rows)
	if err != api.OK || !slices.EqualFunc(rows, ch.handed(), bytes.Equal) {
		t.Fatalf("%v, or what is handed in has changed", err)
	}
	again, _ := audit.Check(6, ch.root(), rows)
	for i := range rows {
		clear(rows[i])
	}
	if !sameStory(s, ch.told()) {
		t.Error("what is handed in is kept")
	}
	for i := range s.Events { // each is a list of its own, also behind its end
		s.Events[i] = append(s.Events[i], 255)
		for j := range s.Events[i] {
			s.Events[i][j] = 254
		}
	}
	s.States = append(s.States, finger(9))
	clear(s.States)
	clear(s.Events[1:])
	if !sameStory(again, ch.told()) {
		t.Error("two answers have a list in common")
	}
	third, _ := audit.Check(6, ch.root(), ch.handed())
	for i := range third.Events {
		third.Events[i] = append(third.Events[i], 255)
	}
	for i, event := range ch.told().Events {
		if !bytes.Equal(third.Events[i], append(bytes.Clone(event), 255)) {
			t.Errorf("event %d: %v", i, third.Events[i])
		}
	}
}
