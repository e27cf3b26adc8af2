package commit_test

import (
	"bytes"
	"math"
	"math/rand/v2"
	"slices"
	"sync"
	"testing"

	"sporran/api"
	"sporran/commit"
)

// near gives a number of 0 to most, often at its bounds; and, one time of a hundred, one beyond them.
func near(r *rand.Rand, most int) int {
	switch r.IntN(100) {
	case 0:
		return most + 1 + int(r.Uint64()>>(1+r.IntN(63)))/2
	case 1, 2, 3:
		return most
	case 4, 5, 6:
		return 0
	}
	return r.IntN(most)
}

func randomRef(r *rand.Rand) api.Ref {
	return api.Ref{Digest: digest(r.IntN(5)), At: near(r, 65535), Len: near(r, 65536)}
}

// randomCommit gives a commit, or what almost is one.
func randomCommit(r *rand.Rand) api.Commit {
	c := api.Commit{Epoch: max(1, r.Uint64()>>r.IntN(64)), Prev: randomRef(r), Volumes: randomRef(r), Index: randomRef(r), State: digest(r.IntN(5))}
	if r.IntN(50) == 0 {
		c.Epoch = 0
	}
	next := r.IntN(3)
	for range r.IntN(5) {
		c.Bins = append(c.Bins, api.Bin{Number: next, At: near(r, 65535), Count: near(r, 65536), Root: digest(r.IntN(5))})
		next += 1 + r.IntN(300) - r.IntN(30)/29*300
	}
	for range r.IntN(5) {
		event := make([]byte, r.IntN(200))
		for i := range event {
			event[i] = byte(r.Uint32())
		}
		c.Events = append(c.Events, event)
	}
	if r.IntN(50) == 0 {
		c.Events = append(c.Events, make([]byte, 65536-r.IntN(800)))
	}
	return c
}

// deeds lets one commit that a seed tells be encoded, and its bytes, some of them changed, be decoded; and tells all answers.
func deeds(seed uint64) []any {
	r := rand.New(rand.NewPCG(seed, 13))
	c := randomCommit(r)
	b, err := commit.Encode(c)
	other := cut(c).joined()
	if i := r.IntN(2 * len(other)); i < len(other) {
		other[i] ^= 1 << r.IntN(8)
	}
	back, backErr := commit.Decode(other)
	again, againErr := commit.Encode(back)
	return []any{b, err, back, backErr, again, againErr, commit.Digest(other)}
}

// P13.1, P13.2: Encode of random commits answers as the plain one, and Decode of their bytes likewise.
func TestRandomCommits(t *testing.T) {
	r := rand.New(rand.NewPCG(13, 1))
	count := map[api.Errno]int{}
	for range 20000 {
		c := randomCommit(r)
		was := copied(c)
		want, wantErr := encoded(c)
		got, err := commit.Encode(c)
		if err != wantErr || !bytes.Equal(got, want) || !same(c, was) {
			t.Fatalf("Encode of epoch %d, %d bins, %d events: %d bytes, %v, not %d bytes, %v", c.Epoch, len(c.Bins), len(c.Events), len(got), err, len(want), wantErr)
		}
		agrees(t, cut(c).joined())
		count[err]++
	}
	for _, err := range []api.Errno{api.OK, api.ErrArg, api.ErrSpace} {
		if count[err] < 100 {
			t.Errorf("%v is answered %d times", err, count[err])
		}
	}
}

// P13.2: of random bytes that almost are a commit just those are taken that the plain one takes, and both ways there are many.
func TestDecodeOfRandomBytes(t *testing.T) {
	r := rand.New(rand.NewPCG(13, 2))
	var count [2]int
	for range 20000 {
		b := cut(randomCommit(r)).joined()
		for range r.IntN(3) {
			i := r.IntN(len(b))
			switch r.IntN(3) {
			case 0:
				b[i] = byte(r.Uint32())
			case 1:
				b = slices.Delete(b, i, min(len(b), i+1+r.IntN(3)))
			case 2:
				b = slices.Insert(b, i, byte(r.Uint32()))
			}
		}
		agrees(t, b)
		if _, may := decoded(b); may {
			count[1]++
		} else {
			count[0]++
		}
	}
	if count[0] < 1000 || count[1] < 1000 {
		t.Errorf("%d are wrong and %d are right", count[0], count[1])
	}
}

// flat tells a row of answers, so that two of them can be held against one another.
func flat(t *testing.T, answers []any) []byte {
	var out []byte
	for _, answer := range answers {
		switch a := answer.(type) {
		case []byte:
			out = append(out, text(a)...)
		case api.Errno:
			out = append(out, byte(a))
		case api.Digest:
			out = append(out, a[:]...)
		case api.Commit:
			out = append(out, cut(a).joined()...)
		default:
			t.Errorf("%T", a)
		}
	}
	return out
}

// P1, P2: no call panics, and the same calls give the same answers, whatever else is called between and meanwhile.
func TestSameCallsSameAnswers(t *testing.T) {
	const seeds = 800
	var first [seeds][]byte
	for seed := range first {
		first[seed] = flat(t, deeds(uint64(seed)))
	}
	var all sync.WaitGroup
	for worker := range 4 {
		all.Go(func() {
			for i := range seeds {
				seed := (seeds - 1 - i + worker*seeds/4) % seeds
				if !bytes.Equal(flat(t, deeds(uint64(seed))), first[seed]) {
					t.Errorf("seed %d: other answers", seed)
					return
				}
			}
		})
	}
	all.Wait()
}

// Rule 3: a list without elements and a nil list are one.
func TestEmptyLists(t *testing.T) {
	full := api.Commit{Epoch: 1, Bins: []api.Bin{}, Events: [][]byte{}}
	right(t, full, cut(api.Commit{Epoch: 1}).joined())
	right(t, api.Commit{Epoch: 1, Events: [][]byte{{}, nil}}, cut(api.Commit{Epoch: 1, Events: [][]byte{nil, {}}}).joined())
	wrong(t, []byte{})
}

// Rule 4: what is handed in isn't changed, and isn't kept.
func TestNothingHandedInIsChangedOrKept(t *testing.T) {
	c := some()
	spoilt := copied(c)
	b, _ := commit.Encode(spoilt)
	if !same(spoilt, c) {
		t.Error("Encode changes the commit")
	}
	was := slices.Clone(b)
	for i := range spoilt.Bins {
		spoilt.Bins[i] = api.Bin{Number: math.MaxInt}
	}
	for _, event := range spoilt.Events {
		clear(event)
	}
	if !bytes.Equal(b, was) {
		t.Error("what Encode answered shares memory with the commit")
	}
	back, _ := commit.Decode(b)
	commit.Digest(b)
	if !bytes.Equal(b, was) {
		t.Error("Decode or Digest changes the bytes")
	}
	clear(b)
	if !same(back, c) {
		t.Error("what Decode answered shares memory with the bytes")
	}
}

// Rule 4: what is answered is new memory: lists of one answer and of two share none, and their room neither.
func TestAnswersShareNothing(t *testing.T) {
	b := cut(some()).joined()
	first, _ := commit.Decode(b)
	second, _ := commit.Decode(b)
	want := copied(some())
	for i := range first.Events {
		first.Events[i] = append(first.Events[i], 98, 97, 96, 95, 94, 93)
		want.Events[i] = append(want.Events[i], 98, 97, 96, 95, 94, 93)
		for k := range first.Events[i] {
			first.Events[i][k]++
			want.Events[i][k]++
		}
		if !same(first, want) {
			t.Fatalf("the event %d reaches another one", i)
		}
	}
	first.Bins[0].At++
	first.Bins = append(first.Bins, api.Bin{})
	first.Events = append(first.Events, nil)
	if !same(second, some()) {
		t.Error("two answers share memory")
	}
	one, _ := commit.Encode(second)
	two, _ := commit.Encode(second)
	clear(one)
	clear(one[:cap(one)])
	if !bytes.Equal(two, b) || !same(second, some()) {
		t.Error("two answers of Encode share memory")
	}
}
