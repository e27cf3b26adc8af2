package model_test

import (
	"bytes"
	"encoding/binary"
	"math"
	"math/rand/v2"
	"slices"
	"strings"
	"testing"

	"sporran/api"
	"sporran/model"
	"sporran/pack"
)

// eventAs is an operation as an event, told once more.
func eventAs(o api.Op) []byte {
	var b []byte
	for _, n := range []int{o.Kind, o.Number, o.Quota} {
		b = binary.AppendUvarint(b, uint64(n))
	}
	for _, s := range []string{o.Name, o.Other} {
		b = append(binary.AppendUvarint(b, uint64(len(s))), s...)
	}
	if o.Kind == 3 {
		b = append(b, o.Block[:]...)
	}
	return b
}

// P15.2: six kinds change something, all others don't.
func TestChanges(t *testing.T) {
	for _, kind := range []int{1, 2, 3, 4, 6, 7} {
		if !model.Changes(kind) {
			t.Errorf("%d doesn't change anything", kind)
		}
	}
	for _, kind := range append(noKinds(), api.OpRead, api.OpList) {
		if model.Changes(kind) {
			t.Errorf("%d changes something", kind)
		}
	}
	for kind := -1000; kind < 1000; kind++ {
		if model.Changes(kind) != slices.Contains([]int{1, 2, 3, 4, 6, 7}, kind) {
			t.Errorf("%d: %v", kind, model.Changes(kind))
		}
	}
}

// P15.2: what doesn't change anything leaves all as it is.
func TestWhatChangesNothing(t *testing.T) {
	m, p := some(t)
	for kind := -20; kind < 20; kind++ {
		if model.Changes(kind) {
			continue
		}
		for _, o := range []api.Op{create("new", 5), write("a", 0, block(9)), clone("a", "new", 5)} {
			o.Kind = kind
			m.Do(o)
			if !sameImages(m.Images(), p.images()) {
				t.Fatalf("%v changes something", o)
			}
		}
	}
}

// P15.2: the bytes, said one by one.
func TestEventByHand(t *testing.T) {
	b := at(0, 200)
	b[47] = 5
	negative := []byte{255, 255, 255, 255, 255, 255, 255, 255, 255, 1}
	for _, c := range []struct {
		o    api.Op
		want [][]byte
	}{
		{api.Op{}, [][]byte{{0, 0, 0, 0, 0}}},
		{create("ab", 300), [][]byte{{1, 0, 172, 2, 2, 'a', 'b', 0}}},
		{remove("a"), [][]byte{{2, 0, 0, 1, 'a', 0}}},
		{write("a", 127, b), [][]byte{{3, 127, 0, 1, 'a', 0, 200}, make([]byte, 46), {5}}},
		{write("", 0, api.Block{}), [][]byte{{3, 0, 0, 0, 0}, make([]byte, 48)}},
		{api.Op{Kind: api.OpWrite, Number: 1, Quota: 2, Name: "a", Other: "bc", Block: b}, [][]byte{{3, 1, 2, 1, 'a', 2, 'b', 'c', 200}, make([]byte, 46), {5}}},
		{trim("a", 128), [][]byte{{4, 128, 1, 0, 1, 'a', 0}}},
		{read("a", 1), [][]byte{{5, 1, 0, 1, 'a', 0}}},
		{snapshot("a", "b"), [][]byte{{6, 0, 0, 1, 'a', 1, 'b'}}},
		{clone("a", "b", api.MaxBlocks), [][]byte{{7, 0, 128, 128, 64, 1, 'a', 1, 'b'}}},
		{list(), [][]byte{{8, 0, 0, 0, 0}}},
		{api.Op{Kind: api.OpTrim, Block: b}, [][]byte{{4, 0, 0, 0, 0}}},
		{api.Op{Kind: 256 + api.OpWrite, Block: b}, [][]byte{{131, 2, 0, 0, 0, 0}}},
		{api.Op{Kind: -1, Number: -1, Quota: -1}, [][]byte{negative, negative, negative, {0, 0}}},
		{api.Op{Kind: math.MinInt}, [][]byte{{128, 128, 128, 128, 128, 128, 128, 128, 128, 1, 0, 0, 0, 0}}},
		{api.Op{Number: math.MaxInt}, [][]byte{{0, 255, 255, 255, 255, 255, 255, 255, 255, 127, 0, 0, 0}}},
		{api.Op{Name: "a b\xff", Other: "\x00"}, [][]byte{{0, 0, 0, 4, 'a', ' ', 'b', 255, 1, 0}}},
	} {
		if got := model.Event(c.o); !bytes.Equal(got, slices.Concat(c.want...)) {
			t.Errorf("%v: %v", c.o, got)
		}
	}
}

// P15.2: what an event tells can be taken again by layer 1.
func TestEventIsTaken(t *testing.T) {
	o := api.Op{Kind: api.OpWrite, Name: "from", Other: "to", Number: 70000, Quota: 300, Block: block(50)}
	b := model.Event(o)
	in := pack.From(b[:len(b)-api.BlockBytes])
	kind, number, quota := in.Number(9), in.Number(api.MaxBlocks), in.Number(api.MaxBlocks)
	name, other := string(in.Bytes(20)), string(in.Bytes(20))
	if in.Done() != api.OK || int(kind) != o.Kind || int(number) != o.Number || int(quota) != o.Quota || name != o.Name || other != o.Other {
		t.Errorf("%v", b)
	}
	if api.Block(b[len(b)-api.BlockBytes:]) != o.Block {
		t.Errorf("%v", b)
	}
}

// P1, P15.2: an event of any numbers and texts, of all lengths up to great ones, is as the plain telling says, and new memory.
func TestEventOfAny(t *testing.T) {
	r := rand.New(rand.NewPCG(15, 2))
	number := func() int { return int(r.Uint64()>>r.IntN(64)) * (1 - 2*r.IntN(2)) }
	text := func() string {
		b := make([]byte, []int{0, 1, 20, 21, 127, 128, 300, 20000}[r.IntN(8)])
		for i := range b {
			b[i] = byte(r.Uint32())
		}
		return string(b)
	}
	for range 3000 {
		o := api.Op{Kind: number(), Name: text(), Other: text(), Number: number(), Quota: number(), Block: block(r.IntN(1000))}
		if r.IntN(2) == 0 {
			o.Kind = r.IntN(10)
		}
		b, c := model.Event(o), model.Event(o)
		if !bytes.Equal(b, eventAs(o)) {
			t.Fatalf("%v: %v", o, b)
		}
		clear(b)
		_ = append(b, 1)
		if !bytes.Equal(c, eventAs(o)) {
			t.Fatalf("%v: two answers share bytes", o)
		}
	}
	long := strings.Repeat("x", 1<<24)
	if b := model.Event(api.Op{Name: long, Other: long}); len(b) != 3+2*(4+1<<24) {
		t.Errorf("%d bytes", len(b))
	}
}
