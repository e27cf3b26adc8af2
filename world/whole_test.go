package world_test

import (
	"bytes"
	"testing"

	"sporran/api"
	"sporran/audit"
	"sporran/bin"
	"sporran/model"
	"sporran/proof"
	"sporran/volume"
)

// The example 1 of the whole: one block that is written to two volumes stands once.
func TestEqualBlocks(t *testing.T) {
	w := made(t, 100)
	happen(t, w, create("a"), create("b"), write("a", 1, 7), write("b", 2, 7), flush())
	if n := w.Store().Stored(); n != 1 {
		t.Errorf("%d blocks", n)
	}
	happen(t, w, crash())
	has(t, w, "a", 1, 7)
	has(t, w, "b", 2, 7)
}

// The example 2: what is written to a volume later isn't seen in its snapshot.
func TestSnapshot(t *testing.T) {
	w := made(t, 100)
	happen(t, w, create("a"), write("a", 1, 7), snapshot("a", "s"), write("a", 1, 8), flush(), write("a", 1, 9), flush(), crash())
	has(t, w, "a", 1, 9)
	has(t, w, "s", 1, 7)
}

// The example 4: somebody changes a block: the next read of it tells ErrTampered, and so do all calls behind, up to a Mount.
func TestBlockIsChanged(t *testing.T) {
	w := made(t, 100)
	happen(t, w, create("a"), write("a", 1, 7), flush(), write("a", 2, 8), flush())
	happen(t, w, set(2, 7)) // the first bin's only block
	has(t, w, "a", 2, 8)
	fails(t, w, read("a", 1), api.ErrTampered)
	fails(t, w, read("a", 2), api.ErrTampered)
	fails(t, w, list(), api.ErrTampered)
	happen(t, w, mount()) // which reads no blocks
	has(t, w, "a", 2, 8)
	fails(t, w, read("a", 1), api.ErrTampered)
	fails(t, w, collect(), api.ErrTampered)
}

// The example 6: behind a Collect blocks that nothing uses are gone; nothing else has changed.
func TestCollect(t *testing.T) {
	w := made(t, 200)
	for i := range 8 {
		happen(t, w, create(string(rune('a'+i))), write(string(rune('a'+i)), 1, byte(i)))
	}
	happen(t, w, flush(), remove("b"), trim("c", 1), flush())
	stored, image := w.Store().Stored(), w.Disk().Image()
	happen(t, w, collect(), crash())
	if stored != 8 || w.Store().Stored() != 6 {
		t.Errorf("%d blocks, and then %d", stored, w.Store().Stored())
	}
	if w.Disk().Image()[2] != image[2] {
		t.Error("what was dropped is written over, though nothing was written behind it")
	}
	names(t, w, "a", "c", "d", "e", "f", "g", "h")
	has(t, w, "a", 1, 0)
	has(t, w, "h", 1, 7)
	happen(t, w, read("c", 1))
}

// The examples 7 and 8: who has the cell alone is shown each event there was, and what a block was, or that there is none.
func TestWhoHasTheCell(t *testing.T) {
	w := made(t, 200)
	events := []api.Event{create("a"), write("a", 1, 7), flush(), write("a", 2, 8), fuse(1), list(), trim("a", 1), crash(), write("a", 1, 9), collect()}
	happen(t, w, events[:5]...)
	names(t, w, "a")
	happen(t, w, events[6:]...)
	commits, err := w.Store().Audit()
	if err != api.OK {
		t.Fatal(err)
	}
	n, root := w.Cell().Get()
	story, err := audit.Check(n, root, commits)
	want := [][]byte{model.Event(events[0].Op), model.Event(events[1].Op), model.Event(events[8].Op), {0}}
	if err != api.OK || story.Epoch != 2 || len(story.Events) != len(want) {
		t.Fatalf("%v: %v", err, story)
	}
	for i, e := range story.Events {
		if !bytes.Equal(e, want[i]) {
			t.Errorf("the event %d: %v, not %v", i, e, want[i])
		}
	}
	_, state := w.Store().State()
	for number, there := range map[int]bool{1: true, 2: false} {
		nodes, err := w.Store().Prove("a", number)
		if err != api.OK {
			t.Fatal(err)
		}
		finger, shown, err := audit.Block(story, 2, "a", number, nodes)
		if err != api.OK || shown != there || shown && finger != bin.Finger(block(9)) {
			t.Errorf("the block %d: %v, %v, %v", number, finger, shown, err)
		}
		if _, shown, err = proof.Check(state, volume.Key("a", number), nodes); shown != there || err != api.OK {
			t.Errorf("the block %d, by the root: %v, %v", number, shown, err)
		}
	}
}
