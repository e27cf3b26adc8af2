package audit_test

import (
	"bytes"
	"fmt"
	"math/rand/v2"
	"slices"
	"testing"

	"sporran/api"
	"sporran/audit"
	"sporran/bin"
	"sporran/cell"
	"sporran/disk"
	"sporran/model"
	"sporran/store"
)

// known is what a store was when an epoch began to last.
type known struct {
	images []api.Image
	prove  map[string][][]byte // by whatShown
}

// rig is a store, and what is known of it by other means.
type rig struct {
	t      *testing.T
	d      *disk.Disk
	c      *cell.Cell
	s      *store.Store
	m      *model.Model
	events [][]byte // of all epochs that last
	since  [][]byte // of what doesn't last yet
	epochs []known
}

func newRig(t *testing.T, sectors int) *rig {
	t.Helper()
	d, _ := disk.New(sectors)
	c := cell.New(0, api.Digest{})
	s, err := store.Mount(d, c)
	if err != api.OK {
		t.Fatal(err)
	}
	return &rig{t: t, d: d, c: c, s: s, m: model.New()}
}

func (r *rig) do(o api.Op) {
	r.t.Helper()
	a := r.s.Do(o)
	if want := r.m.Do(o); a.Err != want.Err {
		r.t.Fatalf("%v: %v, not %v", o, a.Err, want.Err)
	}
	if a.Err == api.OK && model.Changes(o.Kind) {
		r.since = append(r.since, model.Event(o))
	}
}

// lasts lets all that was done last.
func (r *rig) lasts(collect bool) {
	r.t.Helper()
	call := r.s.Flush
	if collect {
		call = r.s.Collect
		r.since = append(r.since, []byte{0})
	}
	if err := call(); err != api.OK {
		r.t.Fatalf("Flush: %v", err)
	}
	if len(r.since) == 0 {
		return
	}
	r.events = slices.Concat(r.events, r.since)
	r.since = nil
	k := known{images: r.m.Images(), prove: map[string][][]byte{}}
	for _, name := range []string{"a", "b", "s"} {
		for number := range 6 {
			nodes, err := r.s.Prove(name, number)
			if err != api.OK {
				r.t.Fatalf("Prove: %v", err)
			}
			k.prove[whatShown(name, number)] = nodes
		}
	}
	r.epochs = append(r.epochs, k)
}

func whatShown(name string, number int) string { return fmt.Sprint(name, " ", number) }

// finger gives the fingerprint that a volume's block had.
func (k known) finger(name string, number int) (api.Digest, bool) {
	for _, v := range k.images {
		for _, b := range v.Blocks {
			if v.Name == name && b.Number == number {
				return bin.Finger(b.Block), true
			}
		}
	}
	return api.Digest{}, false
}

// audited asks that what Audit tells is checked under the cell, and that it tells all events, and each epoch's blocks.
func (r *rig) audited() (audit.Story, [][]byte) {
	r.t.Helper()
	rows, err := r.s.Audit()
	if err != api.OK {
		r.t.Fatalf("Audit: %v", err)
	}
	counter, root := r.c.Get()
	s, err := audit.Check(counter, root, rows)
	if err != api.OK || s.Epoch != uint64(len(r.epochs)) || len(s.States) != len(r.epochs) {
		r.t.Fatalf("Check: %v, epoch %d, %d states, not %d", err, s.Epoch, len(s.States), len(r.epochs))
	}
	if !slices.EqualFunc(s.Events, r.events, bytes.Equal) {
		r.t.Fatalf("%v, not %v", s.Events, r.events)
	}
	if epoch, state := r.s.State(); epoch != s.Epoch || epoch > 0 && s.States[epoch-1] != state {
		r.t.Fatalf("the last state: %d, %v", epoch, state)
	}
	return s, rows
}

// shown asks, of each epoch, what is shown of its blocks.
func (r *rig) shown(s audit.Story) {
	r.t.Helper()
	for i, k := range r.epochs {
		for _, name := range []string{"a", "b", "s"} {
			for number := range 6 {
				want, there := k.finger(name, number)
				shows(r.t, s, uint64(i+1), name, number, k.prove[whatShown(name, number)], want, there)
			}
		}
	}
}

func write(name string, number int, b byte) api.Op {
	return api.Op{Kind: api.OpWrite, Name: name, Number: number, Block: api.Block{b, 47: b}}
}

// P17.3: a store's life, checked behind each of its epochs.
func TestAuditOfStore(t *testing.T) {
	r := newRig(t, 400)
	r.audited() // of epoch 0
	r.do(api.Op{Kind: api.OpCreate, Name: "a", Quota: 6})
	r.do(write("a", 0, 1))
	r.do(api.Op{Kind: api.OpCreate, Name: "a", Quota: 6}) // ErrThere: no event
	r.do(api.Op{Kind: api.OpRead, Name: "a"})
	r.do(api.Op{Kind: api.OpList})
	r.audited()
	r.lasts(false)
	if len(r.events) != 2 {
		t.Fatalf("%d events", len(r.events))
	}
	r.audited()
	r.lasts(false) // nothing
	r.do(api.Op{Kind: api.OpSnapshot, Name: "a", Other: "s"})
	r.do(write("a", 0, 2))
	r.do(write("a", 5, 2))
	r.lasts(false)
	r.audited()
	r.do(api.Op{Kind: api.OpClone, Name: "s", Other: "b", Quota: 2})
	r.do(api.Op{Kind: api.OpTrim, Name: "a", Number: 0})
	r.lasts(true)
	r.audited()
	r.lasts(true)
	r.do(api.Op{Kind: api.OpDelete, Name: "s"})
	r.lasts(true)
	s, _ := r.audited()
	r.shown(s)
	for epoch, k := range r.epochs { // what a block was in one epoch isn't shown of another one, but where both have one state
		for other := range r.epochs {
			if s.States[epoch] != s.States[other] {
				fails(t, api.ErrForm, s, uint64(other+1), "a", 0, k.prove[whatShown("a", 0)])
			}
		}
	}
}

// P17.3: under a cell just what its store tells is checked: not what it told an epoch ahead, nor under an elder root.
func TestAuditOfAnotherEpoch(t *testing.T) {
	r := newRig(t, 400)
	r.do(api.Op{Kind: api.OpCreate, Name: "a", Quota: 6})
	var told [][][]byte
	var roots []api.Digest
	for i := range 5 {
		r.do(write("a", i, byte(i)))
		r.lasts(false)
		_, rows := r.audited()
		_, root := r.c.Get()
		told, roots = append(told, rows), append(roots, root)
	}
	for i, rows := range told {
		for j, root := range roots {
			for counter := range uint64(7) {
				if i == j && counter == uint64(i+1) {
					if _, err := audit.Check(counter, root, rows); err != api.OK {
						t.Errorf("epoch %d: %v", counter, err)
					}
				} else {
					refuses(t, "another epoch", counter, root, rows)
				}
			}
		}
	}
}

// randomOp gives an operation that often does something.
func randomOp(g *rand.Rand) api.Op {
	names := []string{"a", "b", "s", "", "none"}
	o := api.Op{
		Kind: []int{api.OpWrite, api.OpWrite, api.OpWrite, api.OpWrite, api.OpTrim, api.OpCreate, api.OpDelete, api.OpSnapshot, api.OpClone, api.OpRead, 0}[g.IntN(11)],
		Name: names[min(g.IntN(9)/2, 4)], Other: names[g.IntN(4)],
		Number: g.IntN(7), Quota: g.IntN(7), Block: api.Block{byte(g.IntN(5))},
	}
	if o.Kind == api.OpDelete && g.IntN(3) > 0 {
		o.Kind = api.OpWrite
	}
	return o
}

// P17.3: random lives, with crashes, checked meanwhile; and what somebody makes of the rows isn't.
func TestAuditOfRandomStores(t *testing.T) {
	for seed := range uint64(12) {
		g := seeded(seed)
		r := newRig(t, 3000)
		for range 60 {
			for range g.IntN(8) {
				r.do(randomOp(g))
			}
			switch g.IntN(5) {
			case 0, 1:
				r.lasts(false)
			case 2:
				r.lasts(true)
			case 3:
				r.crashes(g)
			}
		}
		s, rows := r.audited()
		r.shown(s)
		counter, root := r.c.Get()
		for range 60 {
			other := meddled(g, rows)
			if !slices.EqualFunc(other, rows, bytes.Equal) {
				refuses(t, "what was meddled with", counter, root, other)
			}
		}
	}
}

// crashes lets the power go within a Flush, and mounts what is left.
func (r *rig) crashes(g *rand.Rand) {
	r.t.Helper()
	r.d.Fuse(g.IntN(3))
	if len(r.since) > 0 && r.s.Flush() != api.ErrDown {
		r.t.Fatal("the power didn't go")
	}
	r.d.Crash([]byte{byte(g.IntN(3)), byte(g.IntN(3))})
	s, err := store.Mount(r.d, r.c)
	if err != api.OK {
		r.t.Fatalf("Mount: %v", err)
	}
	r.s, r.since = s, nil
	r.m = model.New()
	if n := len(r.epochs); n > 0 {
		restore(r.m, r.epochs[n-1].images)
	}
}

// restore makes the volumes of images, none of which must be there.
func restore(m *model.Model, images []api.Image) {
	for _, v := range images {
		name := v.Name
		if v.Frozen {
			name = "~"
		}
		m.Do(api.Op{Kind: api.OpCreate, Name: name, Quota: v.Quota})
		for _, b := range v.Blocks {
			m.Do(api.Op{Kind: api.OpWrite, Name: name, Number: b.Number, Block: b.Block})
		}
		if v.Frozen {
			m.Do(api.Op{Kind: api.OpSnapshot, Name: name, Other: v.Name})
			m.Do(api.Op{Kind: api.OpDelete, Name: name})
		}
	}
}
