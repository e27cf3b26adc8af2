package model_test

import (
	"bytes"
	"encoding/binary"
	"slices"
	"testing"

	"sporran/api"
	"sporran/model"
	"sporran/volume"
)

// plain is a model told once more, by layer 12: a block's fingerprint is its place in a row of all blocks that came.
type plain struct {
	set    *volume.Set
	blocks []api.Block
}

func newPlain() *plain { return &plain{set: volume.New()} }

// label gives a block's fingerprint.
func (p *plain) label(b api.Block) api.Digest {
	i := slices.Index(p.blocks, b)
	if i < 0 {
		i = len(p.blocks)
		p.blocks = append(p.blocks, b)
	}
	var d api.Digest
	binary.BigEndian.PutUint64(d[:], uint64(i))
	return d
}

// block gives the block that has a fingerprint.
func (p *plain) block(d api.Digest) api.Block { return p.blocks[binary.BigEndian.Uint64(d[:])] }

func (p *plain) do(o api.Op) api.Answer {
	var a api.Answer
	switch o.Kind {
	case 1:
		a.Err = p.set.Create(o.Name, o.Quota)
	case 2:
		a.Err = p.set.Delete(o.Name)
	case 3:
		_, _, a.Err = p.set.Put(o.Name, o.Number, p.label(o.Block))
	case 4:
		_, _, a.Err = p.set.Drop(o.Name, o.Number)
	case 5:
		var d api.Digest
		d, a.There, a.Err = p.set.Get(o.Name, o.Number)
		if a.There {
			a.Block = p.block(d)
		}
	case 6:
		quota := 5 // whatever may be
		for _, v := range p.set.All() {
			if v.Name == o.Name {
				quota = v.Quota
			}
		}
		a.Err = p.set.Copy(o.Name, o.Other, quota, true)
	case 7:
		a.Err = p.set.Copy(o.Name, o.Other, o.Quota, false)
	case 8:
		for _, v := range p.set.All() {
			a.Names = append(a.Names, v.Name)
		}
	default:
		a.Err = api.ErrArg
	}
	return a
}

func (p *plain) images() []api.Image {
	var images []api.Image
	for _, v := range p.set.All() {
		image := api.Image{Name: v.Name, Quota: v.Quota, Frozen: v.Frozen}
		for _, c := range v.Cells {
			image.Blocks = append(image.Blocks, api.Numbered{Number: c.Number, Block: p.block(c.Finger)})
		}
		images = append(images, image)
	}
	return images
}

func (p *plain) distinct() int {
	var all []api.Block
	for _, image := range p.images() {
		for _, b := range image.Blocks {
			all = append(all, b.Block)
		}
	}
	slices.SortFunc(all, func(a, b api.Block) int { return bytes.Compare(a[:], b[:]) })
	return len(slices.Compact(all))
}

// sameAnswer tells whether two answers are one.
func sameAnswer(a, b api.Answer) bool {
	return a.Err == b.Err && a.There == b.There && a.Block == b.Block && slices.Equal(a.Names, b.Names)
}

// sameImages tells whether two rows of volumes are one.
func sameImages(a, b []api.Image) bool {
	return slices.EqualFunc(a, b, func(v, w api.Image) bool {
		return v.Name == w.Name && v.Quota == w.Quota && v.Frozen == w.Frozen && slices.Equal(v.Blocks, w.Blocks)
	})
}

// does asks that an operation is answered so, and so on the plain one.
func does(t *testing.T, m *model.Model, p *plain, o api.Op, want api.Answer) {
	t.Helper()
	if got := m.Do(o); !sameAnswer(got, want) {
		t.Fatalf("%v: %v, not %v", o, got, want)
	}
	if got := p.do(o); !sameAnswer(got, want) {
		t.Fatalf("%v: the plain one: %v, not %v", o, got, want)
	}
}

// errs asks that an operation is answered with an error, or OK, and nothing else.
func errs(t *testing.T, m *model.Model, p *plain, o api.Op, want api.Errno) {
	t.Helper()
	does(t, m, p, o, api.Answer{Err: want})
}

// holds asks a model for all that it tells.
func holds(t *testing.T, m *model.Model, p *plain) {
	t.Helper()
	want := p.images()
	if got := m.Images(); !sameImages(got, want) {
		t.Fatalf("Images: %v, not %v", got, want)
	}
	if got := m.Distinct(); got != p.distinct() {
		t.Fatalf("Distinct: %d, not %d", got, p.distinct())
	}
	var names []string
	for _, image := range want {
		names = append(names, image.Name)
		for _, b := range image.Blocks {
			does(t, m, p, read(image.Name, b.Number), api.Answer{There: true, Block: b.Block})
		}
	}
	does(t, m, p, list(), api.Answer{Names: names})
}
