package store_test

import (
	"bytes"
	"maps"
	"slices"
	"strings"
	"testing"

	"sporran/api"
	"sporran/blob"
	"sporran/commit"
	"sporran/disk"
	"sporran/index"
	"sporran/merkle"
	"sporran/model"
	"sporran/pack"
	"sporran/volume"
)

// stretch is sectors one behind the other.
type stretch struct{ at, n int }

// row is a bin, told once more, with its blocks.
type row struct {
	number, at int
	blocks     []api.Block
}

// record is what lasts, told once more. It never changes: the next one is another one.
type record struct {
	epoch   uint64
	done    int // how many operations it has
	commits []api.Ref
	bytes   [][]byte // the commits', the first one first
	volumes stretch
	index   stretch
	rows    []row
	places  map[api.Block]api.Place
	set     *volume.Set
}

// plain is a store told once more: how often a block is used is counted anew each time, what is taken too.
type plain struct {
	disk   *disk.Disk
	record          // what lasts
	ops    []api.Op // all that were OK and change something, since the beginning
	model  *model.Model
	events [][]byte
	places map[api.Block]api.Place // of all blocks that are used now; the bin -1 of the fresh ones
	top    int
}

func newPlain(sectors int) *plain {
	d, _ := disk.New(sectors)
	p := &plain{disk: d, record: record{set: volume.New()}}
	p.mount()
	return p
}

// mount forgets all that doesn't last.
func (p *plain) mount() {
	p.ops = slices.Clone(p.ops[:p.done])
	p.model = model.New()
	for _, o := range p.ops {
		p.model.Do(o)
	}
	p.events = nil
	p.places = maps.Clone(p.record.places)
	p.top = -1
	for _, r := range p.rows {
		p.top = max(p.top, r.number)
	}
}

func (p *plain) do(o api.Op) api.Answer {
	a := p.model.Do(o)
	if a.Err != api.OK || !slices.Contains([]int{1, 2, 3, 4, 6, 7}, o.Kind) {
		return a
	}
	p.ops = append(p.ops, o)
	p.events = append(p.events, model.Event(o))
	used := p.used()
	places := map[api.Block]api.Place{}
	for b := range used {
		if place, there := p.places[b]; there {
			places[b] = place
		} else {
			places[b] = api.Place{Bin: -1}
		}
	}
	p.places = places
	return a
}

// used tells how often each block is used.
func (p *plain) used() map[api.Block]int {
	used := map[api.Block]int{}
	for _, v := range p.model.Images() {
		for _, b := range v.Blocks {
			used[b.Block]++
		}
	}
	return used
}

// taken tells of each sector whether it is.
func (p *plain) taken() []bool {
	taken := make([]bool, p.disk.Len())
	set := func(at, n int) {
		for i := range n {
			taken[at+i] = true
		}
	}
	set(0, 2)
	for _, r := range p.commits {
		set(r.At, need(r.Len))
	}
	set(p.volumes.at, p.volumes.n)
	set(p.index.at, p.index.n)
	for _, r := range p.rows {
		set(r.at, len(r.blocks))
	}
	return taken
}

func need(bytes int) int { return max(1, (bytes+63)/64) }

func (p *plain) room() int {
	room := 0
	for _, taken := range p.taken() {
		if !taken {
			room++
		}
	}
	return room
}

func (p *plain) stored() int {
	stored := 0
	for _, r := range p.rows {
		stored += len(r.blocks)
	}
	return stored
}

// find gives the least place at which n free sectors are, and takes them; -1, if there is none.
func find(taken []bool, n int) int {
	for at := 0; at+n <= len(taken); at++ {
		if !slices.Contains(taken[at:at+n], true) {
			for i := range n {
				taken[at+i] = true
			}
			return at
		}
	}
	return -1
}

// lasting gives the volumes as layer 12 has them, with the fingerprints of the model's blocks.
func (p *plain) lasting() *volume.Set {
	set := volume.New()
	for _, v := range p.model.Images() {
		first := v.Name
		if v.Frozen { // it must have its blocks ahead
			first = strings.Repeat("~", 20)
		}
		set.Create(first, v.Quota)
		for _, b := range v.Blocks {
			set.Put(first, b.Number, finger(b.Block))
		}
		if v.Frozen {
			set.Copy(first, v.Name, v.Quota, true)
			set.Delete(first)
		}
	}
	return set
}

// newRow gives the blocks of the next bin, rising by their fingerprints.
func (p *plain) newRow(collect bool) []api.Block {
	var blocks []api.Block
	for b, place := range p.places {
		if place.Bin < 0 || collect && p.partly(place.Bin) {
			blocks = append(blocks, b)
		}
	}
	slices.SortFunc(blocks, func(a, b api.Block) int {
		x, y := finger(a), finger(b)
		return bytes.Compare(x[:], y[:])
	})
	return blocks
}

// live tells how many blocks stand in a bin that are used.
func (p *plain) live(number int) int {
	live := 0
	for _, place := range p.places {
		if place.Bin == number {
			live++
		}
	}
	return live
}

// partly tells whether some blocks of a bin are used, but not all.
func (p *plain) partly(number int) bool {
	for _, r := range p.rows {
		if r.number == number {
			return p.live(number) > 0 && p.live(number) < len(r.blocks)
		}
	}
	return false
}

// flush tells what becomes of a Flush, or of a Collect.
func (p *plain) flush(collect bool) api.Errno {
	events := slices.Clone(p.events)
	if collect {
		events = append(events, []byte{0})
	}
	if len(events) == 0 {
		return api.OK
	}
	next, fits := p.next(p.newRow(collect), events)
	if !fits {
		return api.ErrSpace
	}
	last := next.commits[len(next.commits)-1]
	p.disk.Sync()
	var slot api.Sector
	copy(slot[:], blob.Put([]byte{1}, last))
	p.disk.Write(int(next.epoch%2), slot)
	p.disk.Sync()
	if p.disk.Dead() {
		return api.ErrDown
	}
	p.record = next
	p.places = maps.Clone(next.places)
	for _, r := range next.rows {
		p.top = max(p.top, r.number)
	}
	p.events = nil
	return api.OK
}

// next gives what is to last next; if it fits all of it but the slot is written.
func (p *plain) next(blocks []api.Block, events [][]byte) (record, bool) {
	next := record{epoch: p.epoch + 1, done: len(p.ops), places: maps.Clone(p.places), set: p.lasting()}
	taken := p.taken()
	type laid struct {
		at int
		b  []byte
	}
	var all []laid
	if len(blocks) > 0 {
		at := find(taken, len(blocks))
		if at < 0 {
			return record{}, false
		}
		next.rows = []row{{p.top + 1, at, blocks}}
		for slot, b := range blocks {
			next.places[b] = api.Place{Bin: p.top + 1, Slot: slot}
			all = append(all, laid{at + slot, b[:]})
		}
	}
	var bins []api.Bin
	for _, r := range slices.Concat(p.rows, next.rows) {
		live := 0
		for _, place := range next.places {
			if place.Bin == r.number {
				live++
			}
		}
		if live > 0 {
			bins = append(bins, r.bin())
		}
	}
	next.rows = slices.DeleteFunc(slices.Concat(p.rows, next.rows), func(r row) bool {
		return !slices.ContainsFunc(bins, func(b api.Bin) bool { return b.Number == r.number })
	})
	lay := func(b []byte) (api.Ref, bool) {
		if len(b) > 65536 {
			return api.Ref{}, false
		}
		at := find(taken, need(len(b)))
		all = append(all, laid{at, b})
		return api.Ref{Digest: tagged(3, b), At: at, Len: len(b)}, at >= 0
	}
	volumes, fits1 := lay(next.set.Encode())
	items, fits2 := lay(p.indexed(next.places))
	if !fits1 || !fits2 {
		return record{}, false
	}
	var prev api.Ref
	if len(p.commits) > 0 {
		prev = p.commits[len(p.commits)-1]
	}
	b, err := commit.Encode(api.Commit{Epoch: next.epoch, Prev: prev, Volumes: volumes, Index: items, Bins: bins, State: next.set.Trie().Root(), Events: events})
	if err != api.OK {
		return record{}, false
	}
	ref, fits := lay(b)
	if !fits {
		return record{}, false
	}
	next.volumes, next.index = stretch{volumes.At, need(volumes.Len)}, stretch{items.At, need(items.Len)}
	next.commits, next.bytes = append(slices.Clone(p.commits), ref), append(slices.Clone(p.bytes), b)
	for _, l := range all {
		for i := range need(len(l.b)) {
			var s api.Sector
			copy(s[:], l.b[i*64:])
			p.disk.Write(l.at+i, s)
		}
	}
	return next, true
}

// bin gives a row as layer 10 tells it.
func (r row) bin() api.Bin {
	var rows [][]byte
	for _, b := range r.blocks {
		rows = append(rows, b[:])
	}
	return api.Bin{Number: r.number, At: r.at, Count: len(rows), Root: merkle.Root(rows)}
}

// indexed gives the index's bytes, by layer 11's words.
func (p *plain) indexed(places map[api.Block]api.Place) []byte {
	x := index.New()
	for b, uses := range p.used() {
		for range uses {
			x.Hold(finger(b))
		}
		x.Move(finger(b), places[b])
	}
	return x.Encode()
}

// agrees asks that the store shows just what the plain one does.
func (r *rig) agrees(p *plain) {
	r.t.Helper()
	epoch, root := r.s.State()
	if epoch != p.epoch || root != p.set.Trie().Root() {
		r.t.Fatalf("State: %d, %v, not of %d", epoch, root, p.epoch)
	}
	if r.s.Stored() != p.stored() || r.s.Room() != p.room() {
		r.t.Fatalf("%d blocks, %d free sectors, not %d, %d", r.s.Stored(), r.s.Room(), p.stored(), p.room())
	}
	counter, digest := r.c.Get()
	if counter != p.epoch || counter > 0 && digest != p.commits[len(p.commits)-1].Digest {
		r.t.Fatalf("the cell: %d, %v", counter, digest)
	}
	if !slices.Equal(r.d.Image(), p.disk.Image()) || r.d.Dead() != p.disk.Dead() {
		r.t.Fatal("another disk")
	}
	if r.s.Tampered() {
		r.t.Fatal("tampered")
	}
}

// audits asks that Audit and Prove tell what the plain one does.
func (r *rig) audits(p *plain) {
	r.t.Helper()
	rows, err := r.s.Audit()
	want := slices.Clone(p.bytes)
	slices.Reverse(want)
	if err != api.OK || !slices.EqualFunc(rows, want, bytes.Equal) {
		r.t.Fatalf("Audit: %d commits, %v", len(rows), err)
	}
	tr := p.set.Trie()
	for _, name := range []string{"a", "b", "none"} {
		for _, number := range []int{0, 1, 2, -1} {
			nodes, err := r.s.Prove(name, number)
			key := tagged(7, []byte(name), pack.Number(nil, uint64(number)))
			if err != api.OK || !slices.EqualFunc(nodes, tr.Prove(key), bytes.Equal) {
				r.t.Fatalf("Prove of %s %d: %v", name, number, err)
			}
		}
	}
}

// The plain telling itself, at what is said by hand elsewhere.
func TestPlain(t *testing.T) {
	p := newPlain(20)
	if p.room() != 18 || p.stored() != 0 || p.flush(false) != api.OK || p.epoch != 0 {
		t.Error("empty")
	}
	p.do(create("a", 5))
	p.do(write("a", 3, 1))
	if err := p.flush(false); err != api.OK || p.stored() != 1 || p.epoch != 1 || p.rows[0].number != 0 || p.volumes.at != 3 {
		t.Errorf("%v: %v", err, p.record)
	}
	p.do(trim("a", 3))
	p.mount()
	if len(p.events) != 0 || !p.do(read("a", 3)).There {
		t.Error("mount")
	}
}
