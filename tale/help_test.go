package tale_test

import (
	"math"
	"math/rand/v2"
	"slices"
	"testing"

	"sporran/api"
	"sporran/tale"
	"sporran/world"
)

func does(o api.Op) api.Event { return api.Event{Kind: api.EvOp, Op: o} }

func same(a, b api.Event) bool {
	return a.Kind == b.Kind && a.At == b.At && a.N == b.N && a.Op == b.Op && a.Sector == b.Sector && slices.Equal(a.Picks, b.Picks)
}

// reads asks for the event of a line.
func reads(t *testing.T, line string, want api.Event) {
	t.Helper()
	if e, err := tale.Read(line); err != api.OK || !same(e, want) {
		t.Errorf("Read of %.200q: %.200q, %v, not %.200q", line, plainLine(e), err, plainLine(want))
	}
}

// refuses asks that a line is none of any event.
func refuses(t *testing.T, line string) {
	t.Helper()
	if e, err := tale.Read(line); err != api.ErrForm || !same(e, api.Event{}) || e.Picks != nil {
		t.Errorf("Read of %.200q: %.200q, %v", line, plainLine(e), err)
	}
}

func made(t *testing.T, sectors int) *world.World {
	t.Helper()
	w, err := world.New(sectors)
	if err != api.OK {
		t.Fatal(err)
	}
	return w
}

// plays asks for what is told of each line.
func plays(t *testing.T, w *world.World, lines ...[2]string) {
	t.Helper()
	var script []string
	for _, l := range lines {
		script = append(script, l[0])
	}
	told := tale.Play(w, script)
	if len(told) != len(script) {
		t.Fatalf("%d lines are told of %d", len(told), len(script))
	}
	for i, l := range lines {
		if want := l[0] + " = " + l[1]; told[i] != want {
			t.Errorf("line %d: %q, not %q", i, told[i], want)
		}
	}
}

// only gives of an event what its Kind tells.
func only(e api.Event) api.Event {
	x := api.Event{Kind: e.Kind}
	switch e.Kind {
	case api.EvOp:
		x.Op = e.Op
	case api.EvFuse, api.EvBack:
		x.N = e.N
	case api.EvCrash:
		x.Picks = e.Picks
	case api.EvSet:
		x.At, x.Sector = e.At, e.Sector
	}
	return x
}

func seeded(seed uint64) *rand.Rand { return rand.New(rand.NewPCG(19, seed)) }

// someNumber gives numbers of all sizes, and the bounds.
func someNumber(g *rand.Rand) int {
	switch g.IntN(4) {
	case 0:
		return g.IntN(5) - 2
	case 1:
		return []int{math.MinInt, math.MinInt + 1, math.MaxInt, math.MaxInt - 1, math.MinInt32, math.MaxInt32}[g.IntN(6)]
	}
	return int(g.Uint64()) >> g.IntN(64)
}

// someBytes gives at most that many, often with bytes of 0 among them and at the end.
func someBytes(g *rand.Rand, most int) []byte {
	b := make([]byte, g.IntN(most+1))
	for i := range b {
		if g.IntN(3) > 0 {
			b[i] = byte(g.Uint32())
		}
	}
	return b
}

// someEvent gives an event of any Kind with all fields.
func someEvent(g *rand.Rand) api.Event {
	e := api.Event{Kind: 1 + g.IntN(8), At: someNumber(g), N: someNumber(g), Picks: someBytes(g, 20)}
	if g.IntN(20) == 0 {
		e.Kind = someNumber(g)
	}
	e.Op = api.Op{Kind: someNumber(g), Name: string(someBytes(g, 25)), Other: string(someBytes(g, 5)), Number: someNumber(g), Quota: someNumber(g)}
	copy(e.Op.Block[:], someBytes(g, api.BlockBytes))
	copy(e.Sector[:], someBytes(g, api.SectorBytes))
	return e
}
