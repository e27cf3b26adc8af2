package world_test

import (
	"math/rand/v2"
	"slices"
	"testing"

	"sporran/api"
	"sporran/model"
	"sporran/store"
	"sporran/world"
)

func does(o api.Op) api.Event           { return api.Event{Kind: api.EvOp, Op: o} }
func flush() api.Event                  { return api.Event{Kind: api.EvFlush} }
func collect() api.Event                { return api.Event{Kind: api.EvCollect} }
func fuse(n int) api.Event              { return api.Event{Kind: api.EvFuse, N: n} }
func crash(picks ...byte) api.Event     { return api.Event{Kind: api.EvCrash, Picks: picks} }
func mount() api.Event                  { return api.Event{Kind: api.EvMount} }
func set(at int, v byte) api.Event      { return puts(at, filled(v)) }
func back(n int) api.Event              { return api.Event{Kind: api.EvBack, N: n} }
func list() api.Event                   { return does(api.Op{Kind: api.OpList}) }
func create(name string) api.Event      { return does(api.Op{Kind: api.OpCreate, Name: name, Quota: 9}) }
func remove(name string) api.Event      { return does(api.Op{Kind: api.OpDelete, Name: name}) }
func trim(name string, n int) api.Event { return does(api.Op{Kind: api.OpTrim, Name: name, Number: n}) }
func read(name string, n int) api.Event { return does(api.Op{Kind: api.OpRead, Name: name, Number: n}) }

func write(name string, number int, b byte) api.Event {
	return does(api.Op{Kind: api.OpWrite, Name: name, Number: number, Block: block(b)})
}

func snapshot(name, other string) api.Event {
	return does(api.Op{Kind: api.OpSnapshot, Name: name, Other: other})
}

func puts(at int, s api.Sector) api.Event { return api.Event{Kind: api.EvSet, At: at, Sector: s} }

// block gives one of 256 blocks, the zero one among them.
func block(b byte) api.Block { return api.Block{b, 47: b} }

// filled is a sector that has the byte v everywhere.
func filled(v byte) api.Sector {
	var s api.Sector
	for i := range s {
		s[i] = v
	}
	return s
}

func made(t *testing.T, sectors int) *world.World {
	t.Helper()
	w, err := world.New(sectors)
	if err != api.OK || w == nil {
		t.Fatalf("a world of %d sectors: %v", sectors, err)
	}
	return w
}

// happen lets events happen, and asks that each is answered with nothing but OK.
func happen(t *testing.T, w *world.World, events ...api.Event) {
	t.Helper()
	for i, e := range events {
		if a := w.Do(e); !sameAnswer(a, api.Answer{}) {
			t.Fatalf("event %d, %v: %v", i, e, a)
		}
	}
}

// answers asks what an event is answered.
func answers(t *testing.T, w *world.World, e api.Event, want api.Answer) {
	t.Helper()
	if a := w.Do(e); !sameAnswer(a, want) {
		t.Errorf("%v: %v, not %v", e, a, want)
	}
}

// fails asks that an event is answered with that error, and nothing else.
func fails(t *testing.T, w *world.World, e api.Event, want api.Errno) {
	t.Helper()
	answers(t, w, e, api.Answer{Err: want})
}

// has asks for a block.
func has(t *testing.T, w *world.World, name string, number int, b byte) {
	t.Helper()
	answers(t, w, read(name, number), api.Answer{There: true, Block: block(b)})
}

// names asks for all names.
func names(t *testing.T, w *world.World, want ...string) {
	t.Helper()
	answers(t, w, list(), api.Answer{Names: want})
}

// counter asks for the cell's.
func counter(t *testing.T, w *world.World, want uint64) {
	t.Helper()
	if got, _ := w.Cell().Get(); got != want {
		t.Errorf("the counter %d, not %d", got, want)
	}
}

// image asks for what is seen on the disk.
func image(t *testing.T, w *world.World, want []api.Sector) {
	t.Helper()
	if got := w.Disk().Image(); !slices.Equal(got, want) {
		t.Errorf("the disk: %v, not %v", got, want)
	}
}

func sameAnswer(a, b api.Answer) bool {
	return a.Err == b.Err && a.There == b.There && a.Block == b.Block && slices.Equal(a.Names, b.Names)
}

// replay gives the model behind some operations.
func replay(ops []api.Op) *model.Model {
	m := model.New()
	for _, o := range ops {
		m.Do(o)
	}
	return m
}

// holds asks that a store has just a model's volumes and blocks.
func holds(t *testing.T, s *store.Store, m *model.Model) {
	t.Helper()
	names := api.Op{Kind: api.OpList}
	if got, want := s.Do(names), m.Do(names); !sameAnswer(got, want) {
		t.Fatalf("the names: %v, not %v", got, want)
	}
	for _, v := range m.Images() {
		for number := range 12 {
			o := api.Op{Kind: api.OpRead, Name: v.Name, Number: number}
			if got, want := s.Do(o), m.Do(o); !sameAnswer(got, want) {
				t.Fatalf("%s %d: %v, not %v", v.Name, number, got, want)
			}
		}
	}
}

func seeded(seed uint64) *rand.Rand { return rand.New(rand.NewPCG(18, seed)) }

// randomOp gives an operation that is often OK, with fields that are nothing to it.
func randomOp(g *rand.Rand) api.Op {
	kinds := []int{1, 1, 2, 3, 3, 3, 3, 3, 3, 3, 3, 3, 4, 5, 5, 5, 5, 5, 5, 6, 7, 8, 0, 9}
	names := []string{"a", "a", "a", "a", "b", "b", "c", "d", " "}
	return api.Op{
		Kind:   kinds[g.IntN(len(kinds))],
		Name:   names[g.IntN(len(names))],
		Other:  names[g.IntN(len(names))],
		Number: []int{0, 0, 1, 1, 2, 3, 4, 11, api.MaxBlocks, -1}[g.IntN(10)],
		Quota:  []int{-1, 1, 2, 3, 5, 8, 8, api.MaxBlocks, api.MaxBlocks + 1}[g.IntN(9)],
		Block:  block(byte(g.IntN(9))),
	}
}

func randomPicks(g *rand.Rand) []byte {
	picks := make([]byte, g.IntN(9))
	for i := range picks {
		picks[i] = byte(g.Uint32())
	}
	return picks
}

// attack is an event by which somebody changes the disk: a bit, or a sector, of another place; or an image is put back, rather a late one.
func attack(g *rand.Rand, w *world.World) api.Event {
	is := w.Disk().Image()
	at, s := g.IntN(len(is)), is[g.IntN(len(is))]
	switch g.IntN(4) {
	case 0:
		s = is[at]
		s[g.IntN(64)] ^= 1 << g.IntN(8)
	case 1:
		return back(g.IntN(w.Now()+1) - g.IntN(2)*w.Now())
	case 2:
		return back(-1 - g.IntN(20))
	}
	return puts(at, s)
}
