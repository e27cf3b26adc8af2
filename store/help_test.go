package store_test

import (
	"crypto/sha256"
	"encoding/binary"
	"slices"
	"testing"

	"sporran/api"
	"sporran/cell"
	"sporran/commit"
	"sporran/disk"
	"sporran/model"
	"sporran/store"
)

func create(name string, quota int) api.Op {
	return api.Op{Kind: api.OpCreate, Name: name, Quota: quota}
}
func remove(name string) api.Op { return api.Op{Kind: api.OpDelete, Name: name} }
func trim(name string, number int) api.Op {
	return api.Op{Kind: api.OpTrim, Name: name, Number: number}
}
func read(name string, number int) api.Op {
	return api.Op{Kind: api.OpRead, Name: name, Number: number}
}
func snapshot(name, other string) api.Op {
	return api.Op{Kind: api.OpSnapshot, Name: name, Other: other}
}
func clone(name, other string, quota int) api.Op {
	return api.Op{Kind: api.OpClone, Name: name, Other: other, Quota: quota}
}
func list() api.Op { return api.Op{Kind: api.OpList} }

func write(name string, number int, b byte) api.Op {
	return api.Op{Kind: api.OpWrite, Name: name, Number: number, Block: block(b)}
}

// block gives one of 256 blocks, the zero one among them.
func block(b byte) api.Block { return api.Block{b, 1: b / 2, 47: b} }

// tagged is layer 2's, told once more, by the library.
func tagged(use byte, rows ...[]byte) api.Digest {
	b := []byte{use}
	for _, row := range rows {
		b = append(binary.AppendUvarint(b, uint64(len(row))), row...)
	}
	return sha256.Sum256(b)
}

func finger(b api.Block) api.Digest { return tagged(6, b[:]) }

// rig is a store, what it is mounted on, and the model of what was done.
type rig struct {
	t *testing.T
	d *disk.Disk
	c *cell.Cell
	s *store.Store
	m *model.Model
}

// newRig gives a new store on a disk of so many sectors.
func newRig(t *testing.T, sectors int) *rig {
	t.Helper()
	d, err := disk.New(sectors)
	if err != api.OK {
		t.Fatalf("a disk of %d sectors: %v", sectors, err)
	}
	r := &rig{t: t, d: d, c: cell.New(0, api.Digest{}), m: model.New()}
	r.mount()
	return r
}

// mount mounts the store again, and asks that this is OK.
func (r *rig) mount() {
	r.t.Helper()
	s, err := store.Mount(r.d, r.c)
	if err != api.OK || s == nil {
		r.t.Fatalf("Mount: %v", err)
	}
	r.s = s
}

// noMount asks that the disk isn't mounted.
func (r *rig) noMount() {
	r.t.Helper()
	if s, err := store.Mount(r.d, r.c); err != api.ErrTampered || s != nil {
		r.t.Errorf("Mount: %v, %v", s, err)
	}
}

// do asks that operations are answered as the model answers them, and with OK.
func (r *rig) do(ops ...api.Op) {
	r.t.Helper()
	for _, o := range ops {
		if a := r.both(o); a.Err != api.OK {
			r.t.Errorf("%v: %v", o, a.Err)
		}
	}
}

// both does an operation on the store and on the model, and asks that the answers are one.
func (r *rig) both(o api.Op) api.Answer {
	r.t.Helper()
	got, want := r.s.Do(o), r.m.Do(o)
	if !sameAnswer(got, want) {
		r.t.Fatalf("%v: %v, not %v", o, got, want)
	}
	return got
}

func (r *rig) flush(want api.Errno) {
	r.t.Helper()
	if err := r.s.Flush(); err != want {
		r.t.Fatalf("Flush: %v, not %v", err, want)
	}
}

func (r *rig) collect(want api.Errno) {
	r.t.Helper()
	if err := r.s.Collect(); err != want {
		r.t.Fatalf("Collect: %v, not %v", err, want)
	}
}

// counts asks for how many blocks are stored, and how many sectors free.
func (r *rig) counts(stored, room int) {
	r.t.Helper()
	if s, f := r.s.Stored(), r.s.Room(); s != stored || f != room {
		r.t.Errorf("%d blocks, %d free sectors, not %d, %d", s, f, stored, room)
	}
}

// holds asks that the store has just the model's volumes and blocks.
func (r *rig) holds() {
	r.t.Helper()
	holds(r.t, r.s, r.m)
}

// commits gives what Audit tells, decoded, the last one first.
func (r *rig) commits() []api.Commit {
	r.t.Helper()
	rows, err := r.s.Audit()
	if err != api.OK {
		r.t.Fatalf("Audit: %v", err)
	}
	var out []api.Commit
	for _, row := range rows {
		c, err := commit.Decode(row)
		if err != api.OK {
			r.t.Fatalf("a commit: %v", err)
		}
		out = append(out, c)
	}
	return out
}

// last gives the last commit.
func (r *rig) last() api.Commit {
	r.t.Helper()
	return r.commits()[0]
}

// bins asks which numbers the bins have, and how many blocks each.
func (r *rig) bins(want ...[2]int) {
	r.t.Helper()
	var got [][2]int
	for _, b := range r.last().Bins {
		got = append(got, [2]int{b.Number, b.Count})
	}
	if !slices.Equal(got, want) {
		r.t.Errorf("bins %v, not %v", got, want)
	}
}

// seen is all that a store shows without being changed by it.
type seen struct {
	epoch        uint64
	root         api.Digest
	stored, room int
	cell         [40]byte
	image        []api.Sector
}

func (r *rig) seen() seen {
	epoch, root := r.s.State()
	return seen{epoch, root, r.s.Stored(), r.s.Room(), r.c.Bytes(), r.d.Image()}
}

// same asks that nothing has changed, but perhaps the disk.
func (r *rig) same(was seen, alsoDisk bool) {
	r.t.Helper()
	is := r.seen()
	if is.epoch != was.epoch || is.root != was.root || is.stored != was.stored || is.room != was.room || is.cell != was.cell {
		r.t.Errorf("changed: %v, %v, %d, %d", is.epoch, is.cell, is.stored, is.room)
	}
	if alsoDisk && !slices.Equal(is.image, was.image) {
		r.t.Error("the disk has changed")
	}
}

// gone asks that the store answers ErrTampered to all, and that it stays as it was.
func (r *rig) gone(was seen) {
	r.t.Helper()
	if !r.s.Tampered() {
		r.t.Error("not tampered")
	}
	for kind := -1; kind < 11; kind++ {
		if a := r.s.Do(api.Op{Kind: kind, Name: "a", Other: "o", Quota: 3}); !sameAnswer(a, api.Answer{Err: api.ErrTampered}) {
			r.t.Errorf("kind %d: %v", kind, a)
		}
	}
	for i, call := range []func() api.Errno{r.s.Flush, r.s.Collect} {
		if err := call(); err != api.ErrTampered {
			r.t.Errorf("call %d: %v", i, err)
		}
	}
	if rows, err := r.s.Prove("a", 0); len(rows) > 0 || err != api.ErrTampered {
		r.t.Errorf("Prove: %v, %v", rows, err)
	}
	if rows, err := r.s.Audit(); len(rows) > 0 || err != api.ErrTampered {
		r.t.Errorf("Audit: %v, %v", rows, err)
	}
	r.same(was, true)
}

func sameAnswer(a, b api.Answer) bool {
	return a.Err == b.Err && a.There == b.There && a.Block == b.Block && slices.Equal(a.Names, b.Names)
}

// holds asks that a store has just a model's volumes and blocks.
func holds(t *testing.T, s *store.Store, m *model.Model) {
	t.Helper()
	if got, want := s.Do(list()), m.Do(list()); !sameAnswer(got, want) {
		t.Fatalf("the names %v, not %v", got, want)
	}
	for _, v := range m.Images() {
		for _, number := range around(v.Blocks) {
			o := read(v.Name, number)
			if got, want := s.Do(o), m.Do(o); !sameAnswer(got, want) {
				t.Fatalf("%s %d: %v, not %v", v.Name, number, got, want)
			}
		}
	}
}

// around gives the blocks' numbers, and some at which perhaps none is.
func around(blocks []api.Numbered) []int {
	numbers := []int{-1, 0, 1, 2, api.MaxBlocks - 1, api.MaxBlocks}
	for _, b := range blocks {
		numbers = append(numbers, b.Number, b.Number+1)
	}
	slices.Sort(numbers)
	return slices.Compact(numbers)
}
