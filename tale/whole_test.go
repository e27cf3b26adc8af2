package tale_test

import (
	"fmt"
	"testing"

	"sporran/tale"
)

const (
	createA = "op 1 61 - 0 9 -"
	createB = "op 1 62 - 0 9 -"
	writeA  = "op 3 61 - 0 0 0a"
	readA   = "op 5 61 - 0 0 -"
)

// The example 1 of the whole: a block that is written to two volumes stands once.
func TestEqualBlocks(t *testing.T) {
	w := made(t, 100)
	plays(t, w, [2]string{createA, "0"}, [2]string{createB, "0"}, [2]string{writeA, "0"}, [2]string{"op 3 62 - 7 0 0a", "0"}, [2]string{"flush", "0"})
	if n := w.Store().Stored(); n != 1 {
		t.Errorf("%d blocks", n)
	}
}

// The example 2: a snapshot stays as it is.
func TestSnapshot(t *testing.T) {
	plays(t, made(t, 100),
		[2]string{createA, "0"}, [2]string{writeA, "0"}, [2]string{"op 6 61 73 0 0 -", "0"}, [2]string{"op 3 61 - 0 0 0b", "0"},
		[2]string{readA, "0 0b"}, [2]string{"op 5 73 - 0 0 -", "0 0a"}, [2]string{"op 3 73 - 0 0 0c", "10"},
		[2]string{"flush", "0"}, [2]string{"mount", "0"}, [2]string{readA, "0 0b"}, [2]string{"op 5 73 - 0 0 -", "0 0a"},
	)
}

// The example 3: the power goes within a Flush, at each write: it is as it was, or, as the cell has advanced, as it was to be.
func TestPowerGoes(t *testing.T) {
	for _, picks := range []string{"-", "00", "01", "05", "0100", "000105"} {
		for power := range 30 {
			w := made(t, 100)
			plays(t, w, [2]string{createA, "0"}, [2]string{writeA, "0"}, [2]string{"flush", "0"}, [2]string{"op 3 61 - 0 0 0b", "0"})
			told := tale.Play(w, []string{fmt.Sprintf("fuse %d", power), "flush", "crash " + picks, readA})
			counter, _ := w.Cell().Get()
			flushed, is := "flush = 11", readA+" = 0 0a"
			if counter == 2 {
				flushed, is = "flush = 0", readA+" = 0 0b"
			}
			if told[1] != flushed || told[2] != "crash "+picks+" = 0" || told[3] != is {
				t.Errorf("power for %d, picks %s, counter %d: %q", power, picks, counter, told)
			}
			if done := power > 20; done && counter != 2 || power == 0 && counter != 1 {
				t.Errorf("power for %d, picks %s: the counter %d", power, picks, counter)
			}
		}
	}
}

// The example 4: somebody changes a block: the next read of it tells so, and so do all calls behind.
func TestSomebodyChangesABlock(t *testing.T) {
	plays(t, made(t, 100),
		[2]string{createA, "0"}, [2]string{writeA, "0"}, [2]string{"flush", "0"},
		[2]string{"set 2 0b", "0"}, // the bin is laid first
		[2]string{"op 8 - - 0 0 -", "0"}, [2]string{readA, "7"}, [2]string{"op 8 - - 0 0 -", "7"}, [2]string{"flush", "7"}, [2]string{"collect", "7"},
		[2]string{"set 2 0a", "0"}, [2]string{readA, "7"}, [2]string{"mount", "0"}, [2]string{readA, "0 0a"},
	)
}

// The example 5: yesterday's image isn't mounted.
func TestYesterday(t *testing.T) {
	plays(t, made(t, 100),
		[2]string{createA, "0"}, [2]string{writeA, "0"}, [2]string{"flush", "0"}, [2]string{"op 3 61 - 0 0 0b", "0"}, [2]string{"flush", "0"},
		[2]string{"back 2", "0"}, [2]string{"mount", "7"}, [2]string{readA, "7"},
		[2]string{"back 4", "0"}, [2]string{readA, "7"}, [2]string{"mount", "0"}, [2]string{readA, "0 0b"},
	)
}

// The example 6: a Collect lets go what nothing uses, and changes nothing else.
func TestCollect(t *testing.T) {
	w := made(t, 100)
	plays(t, w, [2]string{createA, "0"}, [2]string{writeA, "0"}, [2]string{"op 3 61 - 1 0 0b", "0"}, [2]string{"flush", "0"}, [2]string{"op 4 61 - 1 0 -", "0"}, [2]string{"flush", "0"})
	if n := w.Store().Stored(); n != 2 {
		t.Errorf("ahead of it: %d blocks", n)
	}
	plays(t, w, [2]string{"collect", "0"}, [2]string{readA, "0 0a"}, [2]string{"op 5 61 - 1 0 -", "0"}, [2]string{"mount", "0"}, [2]string{readA, "0 0a"})
	if n := w.Store().Stored(); n != 1 {
		t.Errorf("behind it: %d blocks", n)
	}
}
