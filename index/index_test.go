package index_test

import (
	"bytes"
	"crypto/sha256"
	"encoding/binary"
	"math"
	"math/rand/v2"
	"slices"
	"strconv"
	"sync"
	"testing"

	"sporran/api"
	"sporran/index"
)

// at gives the fingerprint of noughts, but for one byte at a place.
func at(place int, b byte) api.Digest {
	var d api.Digest
	d[place] = b
	return d
}

func finger(i int) api.Digest { return sha256.Sum256([]byte(strconv.Itoa(i))) }

// odd are places at the edges of what Decode takes, and far beyond them.
func odd() []api.Place {
	numbers := []int{
		math.MinInt, math.MinInt + 1, math.MinInt32, -129, -2, -1, 0, 1, 126, 127, 128, 65534, 65535, 65536, 1 << 20,
		math.MaxInt32 - 1, math.MaxInt32, math.MaxInt32 + 1, math.MaxUint32, math.MaxUint32 + 1, math.MaxInt - 1, math.MaxInt,
	}
	var places []api.Place
	for _, bin := range numbers {
		for _, slot := range numbers {
			places = append(places, api.Place{Bin: bin, Slot: slot})
		}
	}
	return places
}

// some gives an index of items at all kinds of places, all of which Decode takes.
func some(t *testing.T) (*index.Index, *plain) {
	t.Helper()
	p := none()
	places := []api.Place{{Bin: -1}, {}, {Bin: 0, Slot: 65535}, {Bin: 127, Slot: 300}, {Bin: math.MaxInt32, Slot: 127}, {Bin: math.MaxInt32 - 1, Slot: 128}, {Bin: 127, Slot: 301}}
	for i, place := range places {
		for range 1 + 50*i {
			p.hold(finger(i))
		}
		p.move(finger(i), place)
	}
	return laid(t, p), p
}

// P11.1: without items there is nothing to tell.
func TestNew(t *testing.T) {
	x := index.New()
	holds(t, x, none(), api.Digest{}, at(31, 1), finger(1))
	if len(x.Items()) != 0 || !bytes.Equal(x.Encode(), []byte{0}) {
		t.Errorf("%v, %v", x.Items(), x.Encode())
	}
	for _, f := range []api.Digest{{}, at(0, 255), finger(1)} {
		if gone, err := x.Free(f); gone || err != api.ErrNone {
			t.Errorf("Free of none: %v, %v", gone, err)
		}
		if err := x.Move(f, api.Place{Bin: 3, Slot: 4}); err != api.ErrNone {
			t.Errorf("Move of none: %v", err)
		}
		if item, there := x.Find(f); there || item != (api.Item{}) {
			t.Errorf("Find of none: %v, %v", item, there)
		}
	}
	holds(t, x, none(), api.Digest{})
	if x == index.New() || x == x.Twin() {
		t.Error("two indexes are one")
	}
}

// P11.1: the chapter's example.
func TestExample(t *testing.T) {
	x := index.New()
	if !x.Hold(finger(1)) || x.Hold(finger(1)) {
		t.Error("Hold, Hold")
	}
	if gone, err := x.Free(finger(1)); gone || err != api.OK {
		t.Errorf("the first Free: %v, %v", gone, err)
	}
	if gone, err := x.Free(finger(1)); !gone || err != api.OK {
		t.Errorf("the second Free: %v, %v", gone, err)
	}
	if gone, err := x.Free(finger(1)); gone || err != api.ErrNone {
		t.Errorf("the third Free: %v, %v", gone, err)
	}
	holds(t, x, none(), finger(1))
}

// P11.1: an item has as many uses as holds, less frees; with none left it is gone, and then it begins anew, nowhere.
func TestUses(t *testing.T) {
	for _, f := range []api.Digest{{}, at(0, 1), at(31, 255), finger(5)} {
		x := index.New()
		x.Hold(finger(9))
		for uses := 1; uses <= 5; uses++ {
			if first := x.Hold(f); first != (uses == 1) {
				t.Fatalf("Hold %d: %v", uses, first)
			}
			if item, there := x.Find(f); !there || item != (api.Item{Finger: f, Place: api.Place{Bin: -1, Slot: 0}, Uses: uses}) {
				t.Fatalf("behind Hold %d: %v, %v", uses, item, there)
			}
		}
		x.Move(f, api.Place{Bin: 7, Slot: 8})
		x.Hold(f)
		for uses := 5; uses >= 1; uses-- {
			if gone, err := x.Free(f); gone || err != api.OK {
				t.Fatalf("Free with %d left: %v, %v", uses, gone, err)
			}
			if item, there := x.Find(f); !there || item != (api.Item{Finger: f, Place: api.Place{Bin: 7, Slot: 8}, Uses: uses}) {
				t.Fatalf("with %d left: %v, %v", uses, item, there)
			}
		}
		if gone, err := x.Free(f); !gone || err != api.OK || x.Live(7) != 0 {
			t.Fatalf("the last Free: %v, %v", gone, err)
		}
		if gone, err := x.Free(f); gone || err != api.ErrNone {
			t.Fatalf("a Free of what is gone: %v, %v", gone, err)
		}
		if err := x.Move(f, api.Place{Bin: 7}); err != api.ErrNone || x.Live(7) != 0 {
			t.Fatalf("a Move of what is gone: %v", err)
		}
		if !x.Hold(f) {
			t.Fatal("it was gone, but Hold tells that it was there")
		}
		if item, _ := x.Find(f); item != (api.Item{Finger: f, Place: api.Place{Bin: -1}, Uses: 1}) {
			t.Fatalf("held anew: %v", item)
		}
		if item, there := x.Find(finger(9)); !there || item.Uses != 1 || item.Place.Bin != -1 {
			t.Fatalf("another item: %v, %v", item, there)
		}
	}
}

// P11.1: an item stands where it was moved last, whatever the place, and its uses stay.
func TestMove(t *testing.T) {
	x, p := index.New(), none()
	for i := range 3 {
		for range i + 1 {
			x.Hold(finger(i))
			p.hold(finger(i))
		}
	}
	for i, place := range odd() {
		f := finger(i % 3)
		if err := x.Move(f, place); err != api.OK || p.move(f, place) != api.OK {
			t.Fatalf("Move to %v: %v", place, err)
		}
		if item, _ := x.Find(f); item != (api.Item{Finger: f, Place: place, Uses: i%3 + 1}) {
			t.Fatalf("moved to %v: %v", place, item)
		}
		if err := x.Move(finger(3), place); err != api.ErrNone {
			t.Fatalf("Move of none to %v: %v", place, err)
		}
		holds(t, x, p, finger(3))
	}
}

// P11.1: Live tells the items of a bin, whatever their slots and uses; of -1, too.
func TestLive(t *testing.T) {
	x := index.New()
	for i := range 40 {
		for range i + 1 {
			x.Hold(finger(i))
		}
	}
	live := func(bin, want int) {
		t.Helper()
		if got := x.Live(bin); got != want {
			t.Errorf("Live of %d: %d, not %d", bin, got, want)
		}
	}
	live(-1, 40)
	live(0, 0)
	for i := range 30 {
		x.Move(finger(i), api.Place{Bin: i % 3, Slot: i % 2}) // also two of them at one place
	}
	live(-1, 10)
	live(0, 10)
	live(1, 10)
	live(2, 10)
	live(3, 0)
	x.Move(finger(30), api.Place{Bin: -1, Slot: 7})
	x.Move(finger(31), api.Place{Bin: -1, Slot: math.MinInt})
	x.Move(finger(32), api.Place{Bin: math.MaxInt, Slot: -1})
	x.Move(finger(33), api.Place{Bin: math.MinInt, Slot: -1})
	x.Move(finger(34), api.Place{Bin: -2})
	live(-1, 7)
	live(math.MaxInt, 1)
	live(math.MinInt, 1)
	live(-2, 1)
	live(math.MaxInt-1, 0)
	live(-3, 0)
	x.Free(finger(0)) // its only use
	x.Free(finger(3)) // one of four
	live(0, 9)
}

// P11.1: Items rise by the fingerprints' bytes, as numbers from 0 to 255, in whatever order they came.
func TestItemsRise(t *testing.T) {
	rising := []api.Digest{{}, at(31, 1), at(31, 127), at(31, 128), at(31, 255), at(30, 1), at(16, 200), at(1, 1), at(1, 255), at(0, 1), at(0, 127), at(0, 128), at(0, 255)}
	for seed := range uint64(20) {
		x := index.New()
		r := rand.New(rand.NewPCG(seed, 3))
		for _, i := range r.Perm(len(rising)) {
			x.Hold(rising[i])
		}
		var got []api.Digest
		for _, item := range x.Items() {
			got = append(got, item.Finger)
		}
		if !slices.Equal(got, rising) {
			t.Fatalf("%v", got)
		}
	}
}

// P11.1: a twin is the same, and from then on each goes its own way.
func TestTwin(t *testing.T) {
	x, p := some(t)
	twin, q := x.Twin(), p.twin()
	holds(t, twin, q, finger(99))
	third, r := twin.Twin(), q.twin()

	x.Hold(finger(1))
	p.hold(finger(1))
	x.Free(finger(0))
	p.free(finger(0))
	twin.Move(finger(2), api.Place{Bin: 5, Slot: 6})
	q.move(finger(2), api.Place{Bin: 5, Slot: 6})
	twin.Hold(finger(99))
	q.hold(finger(99))
	third.Free(finger(1))
	r.free(finger(1))

	for i, of := range []*plain{p, q, r} {
		holds(t, []*index.Index{x, twin, third}[i], of, finger(0), finger(99))
	}
	empty := index.New().Twin()
	if !empty.Hold(finger(1)) || !empty.Twin().Twin().Hold(finger(2)) {
		t.Error("a twin of none has items")
	}
}

// Rule 4: what is answered is new memory, and what is handed to Decode isn't changed or kept.
func TestSharesNothing(t *testing.T) {
	x, p := some(t)
	first, second := x.Items(), x.Items()
	clear(first)
	_ = append(first[:0], api.Item{Uses: 9})
	if !slices.Equal(second, p.items()) {
		t.Error("two answers of Items share items")
	}
	b, c := x.Encode(), x.Encode()
	clear(b)
	if !bytes.Equal(c, encoded(p.items())) {
		t.Error("two answers of Encode share bytes")
	}
	holds(t, x, p)

	was := slices.Clone(c)
	y, err := index.Decode(c)
	if err != api.OK || !bytes.Equal(c, was) {
		t.Fatalf("Decode: %v, or it changes what is handed in", err)
	}
	clear(c)
	holds(t, y, p)
	y.Hold(finger(99))
	y.Free(finger(0))
	holds(t, x, p, finger(99))
}

// P11.2: how many items, and of each its fingerprint, the bin's number and 1, the slot, the uses.
func TestEncodeByHand(t *testing.T) {
	x := index.New()
	low, high := at(31, 5), at(0, 200)
	for range 300 {
		x.Hold(high)
	}
	x.Hold(low)
	want := slices.Concat([]byte{2}, low[:], []byte{0, 0, 1}, high[:], []byte{0, 0, 172, 2})
	if got := x.Encode(); !bytes.Equal(got, want) {
		t.Errorf("nowhere: %v", got)
	}
	x.Move(low, api.Place{Bin: 0, Slot: 127})
	x.Move(high, api.Place{Bin: 127, Slot: 128})
	want = slices.Concat([]byte{2}, low[:], []byte{1, 127, 1}, high[:], []byte{128, 1, 128, 1, 172, 2})
	if got := x.Encode(); !bytes.Equal(got, want) {
		t.Errorf("in bins: %v", got)
	}
	x.Free(low)
	for i := range 200 {
		x.Hold(finger(i))
	}
	if got := x.Encode(); !bytes.Equal(got[:2], []byte{201, 1}) {
		t.Errorf("of 201 items: %v", got[:2])
	}
}

// P11.2: numbers below 0 are told modulo 2^64; a bin's number and 1 is, too.
func TestEncodeModulo(t *testing.T) {
	const most = math.MaxUint64
	for _, c := range []struct {
		place               api.Place
		binAndOne, wantSlot uint64
	}{
		{api.Place{Bin: -1, Slot: -1}, 0, most},
		{api.Place{Bin: -2, Slot: 5}, most, 5},
		{api.Place{Bin: math.MinInt, Slot: math.MinInt}, 1<<63 + 1, 1 << 63},
		{api.Place{Bin: math.MaxInt, Slot: math.MaxInt}, 1 << 63, 1<<63 - 1},
		{api.Place{Bin: -3, Slot: -3}, most - 1, most - 2},
	} {
		x := index.New()
		x.Hold(finger(1))
		x.Move(finger(1), c.place)
		if got, want := x.Encode(), told(1, raw(finger(1), c.binAndOne, c.wantSlot, 1)); !bytes.Equal(got, want) {
			t.Errorf("%v: %v, not %v", c.place, got, want)
		}
	}
}

// right asks for what Decode gives of bytes that are right: the index of these items.
func right(t *testing.T, b []byte, want []api.Item) {
	t.Helper()
	x, err := index.Decode(b)
	if err != api.OK || x == nil {
		t.Fatalf("%v: %v, %v", b, x, err)
	}
	if got := x.Items(); !slices.Equal(got, want) {
		t.Fatalf("%v: %v, not %v", b, got, want)
	}
	if !bytes.Equal(x.Encode(), b) {
		t.Fatalf("%v: other bytes: %v", b, x.Encode())
	}
}

// wrong asks for what Decode gives of bytes that aren't.
func wrong(t *testing.T, b []byte) {
	t.Helper()
	if x, err := index.Decode(b); x != nil || err != api.ErrForm {
		t.Fatalf("%v: %v, %v", b, x, err)
	}
}

// P11.2: an index is the same behind Encode and Decode, and goes on.
func TestDecode(t *testing.T) {
	x, p := some(t)
	right(t, x.Encode(), p.items())
	right(t, []byte{0}, nil)
	y, _ := index.Decode(x.Encode())
	holds(t, y, p, finger(99))
	y.Hold(finger(0))
	p.hold(finger(0))
	y.Hold(finger(99))
	p.hold(finger(99))
	y.Free(finger(1))
	p.free(finger(1))
	y.Move(finger(2), api.Place{Bin: 77})
	p.move(finger(2), api.Place{Bin: 77})
	holds(t, y, p, finger(99))
	z, _ := index.Decode([]byte{0})
	if !z.Hold(finger(1)) {
		t.Error("an index of no items has one")
	}
}

// P11.2: the bounds of bins, slots and uses: what is just below them is taken, what is just above isn't.
func TestDecodeBounds(t *testing.T) {
	const most = math.MaxUint64
	bins := []uint64{0, 1, 2, 127, 128, 1<<31 - 1, 1 << 31, 1<<31 + 1, 1 << 32, 1 << 63, most}
	slots := []uint64{0, 1, 127, 128, 65534, 65535, 65536, 65537, 1 << 32, 1 << 63, most}
	uses := []uint64{0, 1, 2, 127, 128, 1<<31 - 2, 1<<31 - 1, 1 << 31, 1 << 32, 1 << 63, most}
	for _, bin := range bins {
		for _, slot := range slots {
			for _, use := range uses {
				b := told(1, raw(finger(1), bin, slot, use))
				if bin > 1<<31 || bin == 0 && slot > 0 || slot > 65535 || use == 0 || use >= 1<<31 {
					wrong(t, b)
					continue
				}
				right(t, b, []api.Item{{Finger: finger(1), Place: api.Place{Bin: int(bin) - 1, Slot: int(slot)}, Uses: int(use)}})
			}
		}
	}
}

// P11.2: what an index gives whose items stand elsewhere isn't taken, though Encode gives it.
func TestDecodeOddPlaces(t *testing.T) {
	for _, place := range odd() {
		x := index.New()
		x.Hold(finger(1))
		x.Hold(finger(2))
		x.Move(finger(2), place)
		bin, slot := place.Bin, place.Slot
		if bin == -1 && slot == 0 || bin >= 0 && bin <= math.MaxInt32 && slot >= 0 && slot <= 65535 {
			right(t, x.Encode(), x.Items())
		} else {
			wrong(t, x.Encode())
		}
	}
}

// P11.2: the fingerprints must rise, and none may be there twice.
func TestDecodeRising(t *testing.T) {
	item := func(f api.Digest) []byte { return raw(f, 1, 0, 1) }
	is := func(fs ...api.Digest) []api.Item {
		var items []api.Item
		for _, f := range fs {
			items = append(items, api.Item{Finger: f, Uses: 1})
		}
		return items
	}
	pairs := [][2]api.Digest{{{}, at(31, 1)}, {at(31, 1), at(31, 2)}, {at(31, 255), at(30, 1)}, {at(0, 127), at(0, 128)}, {at(0, 254), at(0, 255)}}
	for _, pair := range pairs {
		low, high := pair[0], pair[1]
		right(t, told(2, item(low), item(high)), is(low, high))
		wrong(t, told(2, item(high), item(low)))
		wrong(t, told(2, item(low), item(low)))
		wrong(t, told(2, item(high), raw(high, 2, 3, 4)))
		wrong(t, told(3, item(low), item(high), item(high)))
		wrong(t, told(3, item(low), item(high), item(low)))
	}
	right(t, told(1, item(api.Digest{})), is(api.Digest{}))
	wrong(t, told(2, item(api.Digest{}), item(api.Digest{})))
	all := []api.Digest{at(31, 1), at(30, 1), at(29, 1), at(28, 1)}
	right(t, told(4, item(all[0]), item(all[1]), item(all[2]), item(all[3])), is(all...))
	wrong(t, told(4, item(all[0]), item(all[2]), item(all[1]), item(all[3])))
	wrong(t, told(4, item(all[0]), item(all[1]), item(all[3]), item(all[2])))
}

// P11.2: another count than there are items, bytes that end early, bytes behind, numbers of groups too many.
func TestDecodeForm(t *testing.T) {
	x, p := some(t)
	b := x.Encode()
	for n := range b {
		wrong(t, b[:n])
	}
	wrong(t, nil)
	for _, more := range []byte{0, 1, 128, 255} {
		wrong(t, append(slices.Clone(b), more))
		wrong(t, []byte{0, more})
	}
	items := b[1:]
	for count := range uint64(20) {
		if count == uint64(len(p.items())) {
			right(t, told(count, items), p.items())
		} else {
			wrong(t, told(count, items))
		}
	}
	for _, count := range []uint64{127, 128, 255, math.MaxInt32, math.MaxInt32 + 1, math.MaxUint32, math.MaxInt64, 1 << 63, math.MaxUint64} {
		wrong(t, told(count))
		wrong(t, told(count, items))
	}
	f := finger(1)
	right(t, slices.Concat([]byte{1}, f[:], []byte{1, 1, 1}), []api.Item{{Finger: f, Place: api.Place{Slot: 1}, Uses: 1}})
	for _, b := range [][]byte{
		slices.Concat([]byte{129, 0}, f[:], []byte{1, 1, 1}),
		slices.Concat([]byte{1}, f[:], []byte{129, 0, 1, 1}),
		slices.Concat([]byte{1}, f[:], []byte{1, 129, 0, 1}),
		slices.Concat([]byte{1}, f[:], []byte{1, 1, 129, 0}),
		slices.Concat([]byte{1}, f[:], []byte{128, 0, 0, 1}),
		slices.Concat([]byte{1}, f[:], []byte{0, 128, 0, 1}),
		{128, 0},
		{128},
		bytes.Repeat([]byte{255}, 100),
		bytes.Repeat([]byte{128}, 100),
	} {
		wrong(t, b)
	}
}

// agrees holds Decode of some bytes against the plain one.
func agrees(t *testing.T, b []byte) {
	t.Helper()
	if items, may := decoded(b); may {
		right(t, b, items)
	} else {
		wrong(t, b)
	}
}

// P11.2: whichever byte is another one, taken out, or put in: what is taken is just what the plain one takes.
func TestDecodeOfChangedBytes(t *testing.T) {
	x, _ := some(t)
	b := x.Encode()
	for i := range b {
		for by := 1; by < 256; by++ {
			c := slices.Clone(b)
			c[i] ^= byte(by)
			agrees(t, c)
		}
		agrees(t, slices.Delete(slices.Clone(b), i, i+1))
		for _, more := range []byte{0, 1, 127, 128, 255, b[i]} {
			agrees(t, slices.Insert(slices.Clone(b), i, more))
		}
	}
	for i := range 1 << 16 {
		agrees(t, []byte{byte(i), byte(i >> 8)})
	}
}

// randomBytes gives bytes that are items, or almost.
func randomBytes(r *rand.Rand) []byte {
	count := r.IntN(5)
	var b []byte
	for i := range count {
		f := at(0, byte(i))
		if r.IntN(10) == 0 {
			f = at(0, byte(r.IntN(5)))
		}
		bin, slot, uses := r.Uint64()>>(r.IntN(32)+32), r.Uint64()>>(r.IntN(16)+48), r.Uint64()>>(r.IntN(31)+33)
		if r.IntN(10) == 0 {
			bin, slot, uses = bin*uint64(r.IntN(2)), slot*uint64(r.IntN(3)), uses*uint64(r.IntN(3))
		}
		b = append(b, raw(f, bin, slot, uses)...)
	}
	if r.IntN(20) == 0 {
		count += r.IntN(3) - 1
	}
	return append(binary.AppendUvarint(nil, uint64(max(count, 0))), b...)
}

// P11.2: of random rows of items just those are taken that the plain one takes, and both ways there are many.
func TestDecodeOfRandomBytes(t *testing.T) {
	r := rand.New(rand.NewPCG(11, 2))
	var count [2]int
	for range 20000 {
		b := randomBytes(r)
		agrees(t, b)
		if _, may := decoded(b); may {
			count[1]++
		} else {
			count[0]++
		}
	}
	if count[0] < 1000 || count[1] < 1000 {
		t.Errorf("%d are wrong and %d are right", count[0], count[1])
	}
}

// step does one thing, on both, and tells whether they answer the same.
func step(r *rand.Rand, x *index.Index, p *plain) bool {
	f := finger(r.IntN(6))
	switch r.IntN(7) {
	case 0, 1:
		return x.Hold(f) == p.hold(f)
	case 2, 3:
		gone, err := x.Free(f)
		wantGone, wantErr := p.free(f)
		if wantGone {
			delete(p.places, f)
		}
		return gone == wantGone && err == wantErr
	case 4:
		place := api.Place{Bin: r.IntN(5) - 2, Slot: r.IntN(4) - 1}
		return x.Move(f, place) == p.move(f, place)
	case 5:
		bin := r.IntN(6) - 3
		return x.Live(bin) == p.live(bin)
	default:
		item, there := x.Find(f)
		want, wantThere := p.find(f)
		return item == want && there == wantThere
	}
}

// P11.1, P11.2: whatever is called, in whatever order, it is as the plain one tells; and so are the twins that were made meanwhile.
func TestAgainstPlain(t *testing.T) {
	for seed := range uint64(60) {
		r := rand.New(rand.NewPCG(seed, 11))
		x, p := index.New(), none()
		twins := map[*index.Index]*plain{}
		for i := range 200 {
			if !step(r, x, p) {
				t.Fatalf("seed %d, step %d: %v: another answer", seed, i, p)
			}
			if r.IntN(10) == 0 {
				holds(t, x, p, finger(1), finger(99))
				agrees(t, x.Encode())
			}
			if r.IntN(30) == 0 {
				twins[x.Twin()] = p.twin()
			}
			if y, err := index.Decode(x.Encode()); err == api.OK && r.IntN(20) == 0 {
				x = y // and goes on as that
			}
		}
		twins[x] = p
		for w, q := range twins {
			holds(t, w, q, finger(1), finger(99))
		}
	}
}

// P2: the same items give the same answers, in whatever order they came, and whatever came between.
func TestSameWhateverTheOrder(t *testing.T) {
	_, p := some(t)
	want := encoded(p.items())
	for seed := range uint64(20) {
		r := rand.New(rand.NewPCG(seed, 5))
		x := index.New()
		for _, i := range r.Perm(len(p.uses)) {
			x.Hold(p.uses[i])
			other := finger(100 + r.IntN(50))
			x.Hold(other)
			x.Free(other)
		}
		for f, place := range p.places {
			x.Move(f, place)
		}
		if !bytes.Equal(x.Encode(), want) || !slices.Equal(x.Items(), p.items()) {
			t.Fatalf("seed %d: other answers", seed)
		}
	}
}

// P2: indexes have nothing in common, and twins neither, whatever is asked of them at one time.
func TestIndexesAreTheirOwn(t *testing.T) {
	first, p := some(t)
	twins := []*index.Index{first}
	for range 7 {
		twins = append(twins, first.Twin())
	}
	same := make([]bool, len(twins))
	var all sync.WaitGroup
	for i, x := range twins {
		all.Go(func() {
			q := p.twin()
			r := rand.New(rand.NewPCG(uint64(i/2), 1))
			same[i] = true
			for range 100 {
				same[i] = step(r, x, q) && same[i]
			}
			same[i] = same[i] && bytes.Equal(x.Encode(), encoded(q.items()))
		})
	}
	all.Wait()
	if slices.Contains(same, false) {
		t.Error("indexes at one time give other answers")
	}
}

// P1: many items, there and back, end in good time.
func TestMany(t *testing.T) {
	const many = 50000
	x := index.New()
	for i := range many {
		x.Hold(finger(i))
		x.Move(finger(i), api.Place{Bin: i % 1000, Slot: i / 1000})
	}
	y, err := index.Decode(x.Encode())
	if err != api.OK || !slices.Equal(x.Items(), y.Items()) {
		t.Fatalf("there and back: %v", err)
	}
	for bin := range 100 {
		if live := y.Live(bin); live != many/1000 {
			t.Fatalf("Live of %d: %d", bin, live)
		}
	}
	for i := range many {
		if gone, err := y.Free(finger(i)); !gone || err != api.OK {
			t.Fatalf("Free %d: %v, %v", i, gone, err)
		}
	}
	holds(t, y, none(), finger(1))
}
