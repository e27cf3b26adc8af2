package pack_test

import (
	"bytes"
	"encoding/binary"
	"fmt"
	"math"
	"math/rand/v2"
	"slices"
	"testing"

	"sporran/api"
	"sporran/pack"
)

// numbers are those at the edges of their groups, and some between.
func numbers() []uint64 {
	out := []uint64{0, 1, 5, 300, math.MaxUint32, math.MaxInt64, math.MaxUint64 - 1, math.MaxUint64}
	for groups := 1; groups < 10; groups++ {
		edge := uint64(1) << (7 * groups)
		out = append(out, edge-1, edge, edge+1, edge+edge/3)
	}
	return out
}

// P1.1: a number's groups of seven bits, the least first, as few as there must be.
func TestNumberAsTold(t *testing.T) {
	for v, want := range map[uint64][]byte{
		0:              {0},
		1:              {1},
		127:            {127},
		128:            {128, 1},
		300:            {172, 2},
		16383:          {255, 127},
		16384:          {128, 128, 1},
		math.MaxInt64:  {255, 255, 255, 255, 255, 255, 255, 255, 127},
		1 << 63:        {128, 128, 128, 128, 128, 128, 128, 128, 128, 1},
		math.MaxUint64: {255, 255, 255, 255, 255, 255, 255, 255, 255, 1},
	} {
		if got := pack.Number(nil, v); !bytes.Equal(got, want) {
			t.Errorf("Number of %d: %v", v, got)
		}
	}
	for _, v := range numbers() {
		if got, want := pack.Number(nil, v), binary.AppendUvarint(nil, v); !bytes.Equal(got, want) {
			t.Errorf("Number of %d: %v, not %v", v, got, want)
		}
	}
}

// P1.1: bytes are how many there are, and they.
func TestBytesAsTold(t *testing.T) {
	for _, n := range []int{0, 1, 2, 127, 128, 129, 16383, 16384, 70000} {
		b := bytes.Repeat([]byte{200}, n)
		want := append(binary.AppendUvarint(nil, uint64(n)), b...)
		if got := pack.Bytes(nil, b); !bytes.Equal(got, want) {
			t.Errorf("Bytes of %d bytes", n)
		}
	}
	if got := pack.Bytes(nil, nil); !bytes.Equal(got, []byte{0}) {
		t.Errorf("Bytes of none: %v", got)
	}
}

// P1.1: what was there stands ahead, whether there is room behind it or not.
func TestPutBehind(t *testing.T) {
	for _, room := range []int{0, 1, 2, 3, 4, 50} {
		out := append(make([]byte, 0, 2+room), 7, 9)
		if got := pack.Number(out, 300); !bytes.Equal(got, []byte{7, 9, 172, 2}) {
			t.Errorf("room %d: Number: %v", room, got)
		}
		out = append(make([]byte, 0, 2+room), 7, 9)
		given := []byte("abc")
		if got := pack.Bytes(out, given); !bytes.Equal(got, []byte("\x07\x09\x03abc")) {
			t.Errorf("room %d: Bytes: %v", room, got)
		}
		if string(given) != "abc" || out[0] != 7 || out[1] != 9 {
			t.Errorf("room %d: what was handed in is changed", room)
		}
	}
}

// P1.1: bytes that stand in the room behind out are put as they were.
func TestBytesInTheRoomBehind(t *testing.T) {
	for begin := 0; begin <= 4; begin++ {
		for end := begin; end <= 8; end++ {
			row := append(make([]byte, 0, 20), "abcdefgh"...)
			want := append([]byte("ab"), byte(end-begin))
			want = append(want, row[begin:end]...)
			if got := pack.Bytes(row[:2], row[begin:end]); !bytes.Equal(got, want) {
				t.Errorf("%d to %d: %q, not %q", begin, end, got, want)
			}
		}
	}
}

// P1.2: what was put is taken, in order, and then nothing is left.
func TestTaken(t *testing.T) {
	var d api.Digest
	for i := range d {
		d[i] = byte(255 - i)
	}
	var b []byte
	for _, v := range numbers() {
		b = pack.Number(b, v)
		b = append(b, d[:]...)
		b = pack.Bytes(b, d[:v%33])
	}
	in := pack.From(b)
	for _, v := range numbers() {
		if in.Done() != api.ErrForm {
			t.Fatal("Done while something is left")
		}
		if got := in.Number(v); got != v {
			t.Fatalf("%d is taken as %d", v, got)
		}
		if in.Digest() != d {
			t.Fatal("Digest")
		}
		if got := in.Bytes(int(v % 33)); !bytes.Equal(got, d[:v%33]) {
			t.Fatalf("Bytes: %v", got)
		}
		if in.Wrong() {
			t.Fatalf("%d: it has gone wrong", v)
		}
	}
	if in.Done() != api.OK || in.Wrong() {
		t.Error("Done of all")
	}
	if in := pack.From(nil); in.Done() != api.OK || in.Wrong() {
		t.Error("Done of nothing")
	}
}

// wrongNow tells whether it has gone wrong and all give zero values, always again.
func wrongNow(in *pack.In) bool {
	for range 3 {
		if !in.Wrong() || in.Done() != api.ErrForm || in.Number(math.MaxUint64) != 0 || len(in.Bytes(math.MaxInt)) != 0 || in.Digest() != (api.Digest{}) {
			return false
		}
	}
	return true
}

// P1.2: a number that isn't there, has groups too many, or is too great; also where more would follow.
func TestNumberWrong(t *testing.T) {
	nines := func(last ...byte) []byte { return append(bytes.Repeat([]byte{255}, 9), last...) }
	for _, c := range []struct {
		b    []byte
		most uint64
	}{
		{nil, math.MaxUint64},
		{[]byte{128}, math.MaxUint64},
		{[]byte{255, 255}, math.MaxUint64},
		{[]byte{128, 0}, math.MaxUint64},
		{[]byte{129, 0}, math.MaxUint64},
		{[]byte{255, 128, 0}, math.MaxUint64},
		{nines(0), math.MaxUint64},
		{nines(2), math.MaxUint64},
		{nines(3), math.MaxUint64},
		{nines(127), math.MaxUint64},
		{nines(128), math.MaxUint64},
		{nines(129), math.MaxUint64},
		{nines(129, 0), math.MaxUint64},
		{nines(128, 1), math.MaxUint64},
		{nines(1), math.MaxUint64 - 1},
		{[]byte{5}, 4},
		{[]byte{1}, 0},
		{[]byte{172, 2}, 299},
	} {
		if in := pack.From(c.b); in.Number(c.most) != 0 || !wrongNow(in) {
			t.Errorf("%v, at most %d", c.b, c.most)
		}
		if len(c.b) > 0 && c.b[len(c.b)-1] < 128 {
			in := pack.From(append(slices.Clone(c.b), make([]byte, 40)...))
			if in.Number(c.most) != 0 || !wrongNow(in) {
				t.Errorf("%v, at most %d, and more behind", c.b, c.most)
			}
		}
	}
	for _, v := range numbers() {
		in := pack.From(pack.Number(nil, v))
		if in.Number(v) != v || in.Done() != api.OK {
			t.Errorf("%d, at most that", v)
		}
		if v > 0 {
			if in := pack.From(pack.Number(nil, v)); in.Number(v-1) != 0 || !wrongNow(in) {
				t.Errorf("%d, at most one less", v)
			}
		}
	}
}

// P1.2: bytes of which there are too few, or too many, or whose count goes wrong.
func TestBytesWrong(t *testing.T) {
	for _, c := range []struct {
		b    []byte
		most int
	}{
		{nil, 5},
		{[]byte{1}, 5},
		{[]byte{3, 1, 2}, 5},
		{[]byte{2, 1, 2}, 1},
		{[]byte{1, 1}, 0},
		{[]byte{128, 0}, 5},
		{[]byte{129, 0, 7}, 5},
		{[]byte{255, 255, 255, 255, 255, 255, 255, 255, 255, 1, 9, 9}, math.MaxInt},
		{[]byte{255, 255, 255, 255, 255, 255, 255, 255, 127, 9, 9}, math.MaxInt},
		{[]byte{128, 128, 128, 128, 128, 128, 128, 128, 128, 1, 9, 9}, math.MaxInt},
		{[]byte{2, 1, 2}, -1},
		{[]byte{1, 1}, -2},
		{[]byte{0}, -1},
		{[]byte{0}, math.MinInt},
		{[]byte{1, 7}, math.MinInt},
		{[]byte{255, 255, 255, 255, 255, 255, 255, 255, 255, 1}, -1},
	} {
		in := pack.From(c.b)
		if b := in.Bytes(c.most); len(b) != 0 || !wrongNow(in) {
			t.Errorf("%v, at most %d: %v", c.b, c.most, b)
		}
	}
	in := pack.From([]byte{0, 0, 2, 1, 2, 1, 3, 9})
	if len(in.Bytes(0)) != 0 || len(in.Bytes(math.MaxInt)) != 0 || !bytes.Equal(in.Bytes(2), []byte{1, 2}) || !bytes.Equal(in.Bytes(math.MaxInt), []byte{3}) || in.Wrong() {
		t.Error("bytes that are right")
	}
	if in.Done() != api.ErrForm || in.Wrong() || in.Number(9) != 9 || in.Done() != api.OK {
		t.Error("Done where bytes are left changes nothing")
	}
}

// P1.2: a digest needs 32 bytes.
func TestDigestWrong(t *testing.T) {
	for _, n := range []int{0, 1, 31} {
		if in := pack.From(bytes.Repeat([]byte{1}, n)); in.Digest() != (api.Digest{}) || !wrongNow(in) {
			t.Errorf("a digest of %d bytes", n)
		}
	}
	in := pack.From(bytes.Repeat([]byte{1}, 65))
	if d := in.Digest(); d != in.Digest() || d[0] != 1 || d[31] != 1 || in.Wrong() || in.Done() != api.ErrForm {
		t.Error("two digests")
	}
	if in.Digest() != (api.Digest{}) || !wrongNow(in) {
		t.Error("a third one of one byte")
	}
}

// P1.2, rule 4: what is handed in isn't changed and isn't kept, and answers share nothing.
func TestInSharesNothing(t *testing.T) {
	given := []byte{2, 1, 2, 3, 4, 5, 6, 7}
	was := slices.Clone(given)
	in := pack.From(given)
	first := in.Bytes(2)
	first[0] = 99
	grown := append(first, 98, 97, 96)
	if !bytes.Equal(given, was) {
		t.Error("what was handed in is changed")
	}
	clear(given)
	second := in.Bytes(3)
	if !bytes.Equal(second, []byte{4, 5, 6}) || in.Number(7) != 7 || in.Done() != api.OK {
		t.Errorf("behind other bytes than were handed in: %v", second)
	}
	second[0] = 1
	if !bytes.Equal(first, []byte{99, 2}) || !bytes.Equal(grown, []byte{99, 2, 98, 97, 96}) {
		t.Error("two answers share bytes")
	}
	if !bytes.Equal(given, make([]byte, len(given))) {
		t.Error("an answer and an argument share bytes")
	}
}

// deeds lets some calls, chosen by a seed, be done on In's of random bytes, and tells all answers.
func deeds(seed uint64) string {
	r := rand.New(rand.NewPCG(seed, 1))
	mosts := []int{math.MinInt, -1, 0, 1, 2, 40, math.MaxInt}
	b := make([]byte, r.IntN(90))
	for i := range b {
		b[i] = byte(r.IntN(256)) >> r.IntN(8)
	}
	in := pack.From(b)
	out := []byte{}
	var told string
	for range 12 {
		switch r.IntN(6) {
		case 0:
			told += fmt.Sprint(in.Number(r.Uint64() >> r.IntN(64)))
		case 1:
			told += fmt.Sprint(in.Bytes(mosts[r.IntN(len(mosts))]))
		case 2:
			told += fmt.Sprint(in.Digest())
		case 3:
			told += fmt.Sprint(in.Wrong(), in.Done())
		case 4:
			out = pack.Number(out, r.Uint64()>>r.IntN(64))
		case 5:
			out = pack.Bytes(out, b)
		}
	}
	return told + fmt.Sprint(in.Wrong(), in.Done(), out)
}

// P1, P2: no call panics, and the same calls give the same answers, whatever else was called between.
func TestSameCallsSameAnswers(t *testing.T) {
	const seeds = 3000
	var told [seeds]string
	for seed := range told {
		told[seed] = deeds(uint64(seed))
	}
	for seed := seeds - 1; seed >= 0; seed-- {
		if deeds(uint64(seed)) != told[seed] {
			t.Fatalf("seed %d: other answers", seed)
		}
	}
}

// P1.2: of all short rows of bytes just those are taken that Number and Bytes put.
func TestOneFormOnly(t *testing.T) {
	for i := range 1 << 16 {
		b := []byte{byte(i), byte(i >> 8)}
		in := pack.From(b)
		v := in.Number(math.MaxUint64)
		if right := bytes.Equal(pack.Number(nil, v), b); right != (in.Done() == api.OK) {
			t.Fatalf("%v as a number: %d, %v", b, v, in.Done())
		}
		in = pack.From(b)
		taken := in.Bytes(2)
		if right := bytes.Equal(pack.Bytes(nil, taken), b); right != (in.Done() == api.OK) {
			t.Fatalf("%v as bytes: %v, %v", b, taken, in.Done())
		}
	}
}
