package index_test

import (
	"bytes"
	"encoding/binary"
	"math"
	"slices"
	"testing"

	"sporran/api"
	"sporran/index"
)

// plain is an index told once more: a row of fingerprints and places, one element for each use, in the order of the holds.
type plain struct {
	uses   []api.Digest
	places map[api.Digest]api.Place
}

func none() *plain { return &plain{places: map[api.Digest]api.Place{}} }

func (p *plain) twin() *plain {
	twin := none()
	twin.uses = slices.Clone(p.uses)
	for finger, place := range p.places {
		twin.places[finger] = place
	}
	return twin
}

func (p *plain) hold(finger api.Digest) bool {
	first := !slices.Contains(p.uses, finger)
	if first {
		p.places[finger] = api.Place{Bin: -1, Slot: 0}
	}
	p.uses = append(p.uses, finger)
	return first
}

func (p *plain) free(finger api.Digest) (bool, api.Errno) {
	at := slices.Index(p.uses, finger)
	if at < 0 {
		return false, api.ErrNone
	}
	p.uses = slices.Delete(p.uses, at, at+1)
	return !slices.Contains(p.uses, finger), api.OK
}

func (p *plain) move(finger api.Digest, place api.Place) api.Errno {
	if !slices.Contains(p.uses, finger) {
		return api.ErrNone
	}
	p.places[finger] = place
	return api.OK
}

// items gives one item for each run of equal fingerprints.
func (p *plain) items() []api.Item {
	var out []api.Item
	sorted := slices.Clone(p.uses)
	slices.SortFunc(sorted, func(a, b api.Digest) int { return bytes.Compare(a[:], b[:]) })
	for i, finger := range sorted {
		if i == 0 || sorted[i-1] != finger {
			out = append(out, api.Item{Finger: finger, Place: p.places[finger]})
		}
		out[len(out)-1].Uses++
	}
	return out
}

func (p *plain) find(finger api.Digest) (api.Item, bool) {
	for _, item := range p.items() {
		if item.Finger == finger {
			return item, true
		}
	}
	return api.Item{}, false
}

func (p *plain) live(bin int) int {
	return len(slices.DeleteFunc(p.items(), func(item api.Item) bool { return item.Place.Bin != bin }))
}

// raw is an item as bytes, whatever its numbers are.
func raw(finger api.Digest, binAndOne, slot, uses uint64) []byte {
	out := slices.Clone(finger[:])
	for _, v := range []uint64{binAndOne, slot, uses} {
		out = binary.AppendUvarint(out, v)
	}
	return out
}

// told is how many there are, and rows of bytes behind it.
func told(count uint64, rows ...[]byte) []byte {
	return append(binary.AppendUvarint(nil, count), slices.Concat(rows...)...)
}

// encoded is items as bytes. A number and 1 is held to 64 bits by the type.
func encoded(items []api.Item) []byte {
	var rows [][]byte
	for _, item := range items {
		rows = append(rows, raw(item.Finger, uint64(item.Place.Bin)+1, uint64(item.Place.Slot), uint64(item.Uses)))
	}
	return told(uint64(len(items)), rows...)
}

// decoded gives the items that bytes tell, if they may be: taken without care for their form, which is held to be the one that encoded gives.
func decoded(b []byte) ([]api.Item, bool) {
	rest, right := b, true
	number := func() uint64 {
		v, n := binary.Uvarint(rest)
		right = right && n > 0
		rest = rest[max(n, 0):]
		return v
	}
	var items []api.Item
	for count := number(); right && uint64(len(items)) < count; {
		if len(rest) < api.DigestBytes {
			return nil, false
		}
		item := api.Item{Finger: api.Digest(rest[:api.DigestBytes])}
		rest = rest[api.DigestBytes:]
		bin, slot, uses := number(), number(), number()
		if bin > 1<<31 || bin == 0 && slot != 0 || slot > 65535 || uses == 0 || uses > math.MaxInt32 {
			return nil, false
		}
		item.Place, item.Uses = api.Place{Bin: int(bin) - 1, Slot: int(slot)}, int(uses)
		items = append(items, item)
	}
	for i := range items {
		right = right && (i == 0 || string(items[i-1].Finger[:]) < string(items[i].Finger[:]))
	}
	return items, right && bytes.Equal(encoded(items), b)
}

// laid gives an index with all that a plain one has.
func laid(t *testing.T, p *plain) *index.Index {
	t.Helper()
	x := index.New()
	for _, finger := range p.uses {
		x.Hold(finger)
	}
	for finger, place := range p.places {
		if err := x.Move(finger, place); err != api.OK {
			t.Fatalf("laid: Move: %v", err)
		}
	}
	return x
}

// holds asks an index for all that it tells, of its items, and of other fingerprints and bins.
func holds(t *testing.T, x *index.Index, p *plain, others ...api.Digest) {
	t.Helper()
	want := p.items()
	if got := x.Items(); !slices.Equal(got, want) {
		t.Fatalf("Items: %v, not %v", got, want)
	}
	if got := x.Encode(); !bytes.Equal(got, encoded(want)) {
		t.Fatalf("Encode: %v, not %v", got, encoded(want))
	}
	bins := []int{-1, 0, 1, math.MinInt, math.MaxInt}
	for _, item := range want {
		if got, there := x.Find(item.Finger); !there || got != item {
			t.Fatalf("Find: %v, %v, not %v", got, there, item)
		}
		bins = append(bins, item.Place.Bin-1, item.Place.Bin, item.Place.Bin+1)
	}
	for _, finger := range others {
		want, wantThere := p.find(finger)
		if got, there := x.Find(finger); got != want || there != wantThere {
			t.Fatalf("Find of another: %v, %v, not %v, %v", got, there, want, wantThere)
		}
	}
	for _, bin := range bins {
		if got := x.Live(bin); got != p.live(bin) {
			t.Fatalf("Live of %d: %d, not %d", bin, got, p.live(bin))
		}
	}
}
