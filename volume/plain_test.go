package volume_test

import (
	"bytes"
	"crypto/sha256"
	"encoding/binary"
	"math"
	"slices"
	"testing"

	"sporran/api"
	"sporran/trie"
	"sporran/volume"
)

// plain is a set told once more: rows of volumes and blocks, in the order in which they came.
type plain struct{ rows []api.Volume }

func (p *plain) twin() *plain {
	rows := slices.Clone(p.rows)
	for i := range rows {
		rows[i].Cells = slices.Clone(rows[i].Cells)
	}
	return &plain{rows: rows}
}

func (p *plain) find(name string) *api.Volume {
	for i := range p.rows {
		if p.rows[i].Name == name {
			return &p.rows[i]
		}
	}
	return nil
}

// good tells whether a name and a quota may be.
func good(name string, quota int) bool {
	if name == "" || len(name) > 20 || quota < 0 || quota > 1048576 {
		return false
	}
	for _, b := range []byte(name) {
		if b < '!' || b > '~' {
			return false
		}
	}
	return true
}

func (p *plain) create(name string, quota int) api.Errno {
	if !good(name, quota) {
		return api.ErrArg
	}
	if p.find(name) != nil {
		return api.ErrThere
	}
	p.rows = append(p.rows, api.Volume{Name: name, Quota: quota})
	return api.OK
}

func (p *plain) copy(name, other string, quota int, frozen bool) api.Errno {
	if !good(other, quota) {
		return api.ErrArg
	}
	from := p.find(name)
	if from == nil {
		return api.ErrNone
	}
	if p.find(other) != nil {
		return api.ErrThere
	}
	if quota < len(from.Cells) {
		return api.ErrQuota
	}
	p.rows = append(p.rows, api.Volume{Name: other, Quota: quota, Frozen: frozen, Cells: slices.Clone(from.Cells)})
	return api.OK
}

func (p *plain) delete(name string) api.Errno {
	if p.find(name) == nil {
		return api.ErrNone
	}
	p.rows = slices.DeleteFunc(p.rows, func(v api.Volume) bool { return v.Name == name })
	return api.OK
}

// cell gives a volume, and where in it the block of that number is, below 0 for none.
func (p *plain) cell(name string, number int) (*api.Volume, int, api.Errno) {
	v := p.find(name)
	if v == nil {
		return nil, 0, api.ErrNone
	}
	if number < 0 || number > 1048575 {
		return nil, 0, api.ErrRange
	}
	return v, slices.IndexFunc(v.Cells, func(c api.Cell) bool { return c.Number == number }), api.OK
}

func (p *plain) get(name string, number int) (api.Digest, bool, api.Errno) {
	v, i, err := p.cell(name, number)
	if err != api.OK || i < 0 {
		return api.Digest{}, false, err
	}
	return v.Cells[i].Finger, true, api.OK
}

func (p *plain) put(name string, number int, finger api.Digest) (api.Digest, bool, api.Errno) {
	v, i, err := p.cell(name, number)
	switch {
	case err != api.OK:
		return api.Digest{}, false, err
	case v.Frozen:
		return api.Digest{}, false, api.ErrFrozen
	case i < 0 && len(v.Cells) == v.Quota:
		return api.Digest{}, false, api.ErrQuota
	case i < 0:
		v.Cells = append(v.Cells, api.Cell{Number: number, Finger: finger})
		return api.Digest{}, false, api.OK
	}
	was := v.Cells[i].Finger
	v.Cells[i].Finger = finger
	return was, true, api.OK
}

func (p *plain) drop(name string, number int) (api.Digest, bool, api.Errno) {
	v, i, err := p.cell(name, number)
	if err == api.OK && v.Frozen {
		err = api.ErrFrozen
	}
	if err != api.OK || i < 0 {
		return api.Digest{}, false, err
	}
	was := v.Cells[i].Finger
	v.Cells = slices.Delete(v.Cells, i, i+1)
	return was, true, api.OK
}

func (p *plain) all() []api.Volume {
	rows := p.twin().rows
	slices.SortFunc(rows, func(a, b api.Volume) int { return bytes.Compare([]byte(a.Name), []byte(b.Name)) })
	for _, v := range rows {
		slices.SortFunc(v.Cells, func(a, b api.Cell) int { return a.Number - b.Number })
	}
	return rows
}

// key is the digest of the byte 7, the name, and the number, each with how many bytes it has ahead.
func key(name string, number int) api.Digest {
	b := append(binary.AppendUvarint([]byte{7}, uint64(len(name))), name...)
	n := binary.AppendUvarint(nil, uint64(number))
	return sha256.Sum256(append(binary.AppendUvarint(b, uint64(len(n))), n...))
}

func (p *plain) trie() *trie.Trie {
	t := trie.New()
	for _, v := range p.rows {
		for _, c := range v.Cells {
			t.Put(key(v.Name, c.Number), c.Finger[:])
		}
	}
	return t
}

// told is how many there are, and rows of bytes behind it.
func told(count uint64, rows ...[]byte) []byte {
	return append(binary.AppendUvarint(nil, count), slices.Concat(rows...)...)
}

// raw is a volume as bytes, whatever its name and numbers are.
func raw(name string, mark uint64, cells ...[]byte) []byte {
	b := append(binary.AppendUvarint(nil, uint64(len(name))), name...)
	return append(binary.AppendUvarint(b, mark), told(uint64(len(cells)), cells...)...)
}

// rawCell is a block as bytes, whatever its number is.
func rawCell(number uint64, finger api.Digest) []byte {
	return append(binary.AppendUvarint(nil, number), finger[:]...)
}

func encoded(all []api.Volume) []byte {
	var rows [][]byte
	for _, v := range all {
		var cells [][]byte
		for _, c := range v.Cells {
			cells = append(cells, rawCell(uint64(c.Number), c.Finger))
		}
		mark := uint64(2 * v.Quota)
		if v.Frozen {
			mark++
		}
		rows = append(rows, raw(v.Name, mark, cells...))
	}
	return told(uint64(len(all)), rows...)
}

// reader takes things without care for their form.
type reader struct {
	rest  []byte
	wrong bool
}

func (r *reader) number() uint64 {
	v, n := binary.Uvarint(r.rest)
	r.wrong = r.wrong || n <= 0
	r.rest = r.rest[max(n, 0):]
	return v
}

func (r *reader) bytes(n uint64) []byte {
	if r.wrong || n > uint64(len(r.rest)) {
		r.wrong = true
		return make([]byte, api.DigestBytes)
	}
	b := r.rest[:n]
	r.rest = r.rest[n:]
	return b
}

// decoded gives the volumes that bytes tell, if they may be: they are held to be what encoded gives.
func decoded(b []byte) ([]api.Volume, bool) {
	r := reader{rest: b}
	var all []api.Volume
	for count := r.number(); uint64(len(all)) < count; {
		v := api.Volume{Name: string(r.bytes(r.number()))}
		mark, cells := r.number(), r.number()
		if r.wrong || mark > math.MaxInt32 || cells > mark/2 {
			return nil, false
		}
		v.Quota, v.Frozen = int(mark)/2, mark&1 != 0
		for uint64(len(v.Cells)) < cells {
			number, finger := r.number(), api.Digest(r.bytes(api.DigestBytes))
			if r.wrong || number >= 1<<20 {
				return nil, false
			}
			v.Cells = append(v.Cells, api.Cell{Number: int(number), Finger: finger})
		}
		if !good(v.Name, v.Quota) {
			return nil, false
		}
		all = append(all, v)
	}
	return all, !r.wrong && rises(all) && bytes.Equal(encoded(all), b)
}

// rises tells whether volumes rise by their names, and the blocks of each by their numbers.
func rises(all []api.Volume) bool {
	for i, v := range all {
		if i > 0 && all[i-1].Name >= v.Name {
			return false
		}
		for k, c := range v.Cells {
			if k > 0 && v.Cells[k-1].Number >= c.Number {
				return false
			}
		}
	}
	return true
}

// laid gives a set with all that a plain one has.
func laid(t *testing.T, p *plain) *volume.Set {
	t.Helper()
	s := volume.New()
	for _, v := range p.rows {
		name, out := v.Name, "laid"
		if !v.Frozen {
			out = v.Name
		}
		err := s.Create(out, v.Quota)
		for _, c := range v.Cells {
			if _, _, e := s.Put(out, c.Number, c.Finger); e != api.OK {
				err = e
			}
		}
		if v.Frozen && (s.Copy(out, name, v.Quota, true) != api.OK || s.Delete(out) != api.OK) {
			err = api.ErrFrozen
		}
		if err != api.OK {
			t.Fatalf("laid: %v: %v", v, err)
		}
	}
	return s
}

// same tells whether two rows of volumes are one.
func same(a, b []api.Volume) bool {
	return slices.EqualFunc(a, b, func(v, w api.Volume) bool {
		return v.Name == w.Name && v.Quota == w.Quota && v.Frozen == w.Frozen && slices.Equal(v.Cells, w.Cells)
	})
}

// gets asks both for a block.
func gets(t *testing.T, s *volume.Set, p *plain, name string, number int) {
	t.Helper()
	want, wantThere, wantErr := p.get(name, number)
	if got, there, err := s.Get(name, number); got != want || there != wantThere || err != wantErr {
		t.Fatalf("Get of %q, %d: %x, %v, %v, not %x, %v, %v", name, number, got, there, err, want, wantThere, wantErr)
	}
}

// holds asks a set for all that it tells, of its volumes and blocks, of the numbers beside them, and of other names.
func holds(t *testing.T, s *volume.Set, p *plain, others ...string) {
	t.Helper()
	want := p.all()
	if got := s.All(); !same(got, want) {
		t.Fatalf("All: %v, not %v", got, want)
	}
	if got := s.Encode(); !bytes.Equal(got, encoded(want)) {
		t.Fatalf("Encode: %v, not %v", got, encoded(want))
	}
	if got, want := s.Trie(), p.trie(); got.Root() != want.Root() || !slices.Equal(got.Keys(), want.Keys()) {
		t.Fatalf("Trie: %x, not %x", got.Root(), want.Root())
	}
	names := others
	for _, v := range want {
		names = append(names, v.Name)
		for _, c := range v.Cells {
			gets(t, s, p, v.Name, c.Number-1)
			gets(t, s, p, v.Name, c.Number)
			gets(t, s, p, v.Name, c.Number+1)
		}
	}
	for _, name := range append(names, "", "no") {
		for _, number := range []int{math.MinInt, -1, 0, 1, 2, api.MaxBlocks - 1, api.MaxBlocks, math.MaxInt} {
			gets(t, s, p, name, number)
		}
	}
}
