package tale_test

import (
	"fmt"
	"math/rand/v2"
	"slices"
	"strings"
	"testing"

	"sporran/api"
	"sporran/tale"
)

// P19.2: every Kind of event, and every error that there is but those of ErrForm and ErrCounter.
func TestPlayByHand(t *testing.T) {
	w := made(t, 60)
	plays(t, w,
		[2]string{"back 0", "5"},
		[2]string{"op 1 61 - 0 2 -", "0"},
		[2]string{"op 1 61 - 0 2 -", "6"},
		[2]string{"op 1 - - 0 2 -", "1"},
		[2]string{"op 3 61 - 1 0 0100ff", "0"},
		[2]string{"op 5 61 - 1 0 -", "0 0100ff"},
		[2]string{"op 5 61 - 2 0 -", "0"}, // it has no such block
		[2]string{"op 3 61 - 2 0 -", "0"},
		[2]string{"op 5 61 - 2 0 -", "0 -"}, // it has one of 0
		[2]string{"op 3 61 - 3 0 01", "8"},
		[2]string{"op 3 61 - -1 0 01", "2"},
		[2]string{"op 6 61 73 0 0 -", "0"},
		[2]string{"op 4 73 - 1 0 -", "10"},
		[2]string{"op 8 - - 0 0 -", "0"}, // names aren't told
		[2]string{"op 0 - - 0 0 -", "1"},
		[2]string{"flush", "0"},
		[2]string{"op 2 61 - 0 0 -", "0"},
		[2]string{"op 5 61 - 1 0 -", "5"},
		[2]string{"fuse 1", "0"},
		[2]string{"collect", "11"},
		[2]string{"crash -", "0"},
		[2]string{"op 5 61 - 1 0 -", "0 0100ff"},
		[2]string{"collect", "0"},
		[2]string{"set 60 01", "2"},
		[2]string{"set 0 01", "0"},
		[2]string{"mount", "7"},
		[2]string{"op 8 - - 0 0 -", "7"},
		[2]string{"crash 0102", "7"},
		[2]string{"back -4", "0"},
		[2]string{"mount", "7"},
		[2]string{"back 22", "0"},
		[2]string{"mount", "0"},
		[2]string{"op 5 73 - 1 0 -", "0 0100ff"},
	)
	if w.Now() != 33 {
		t.Errorf("%d events", w.Now())
	}
	tight := made(t, 4)
	plays(t, tight, [2]string{"op 1 61 - 0 2 -", "0"}, [2]string{"flush", "4"})
}

// P19.2: a block is told by all of its bytes, but those of 0 at the end.
func TestPlayTellsBlocks(t *testing.T) {
	for _, block := range []string{"-", "01", "10", "0001", "a0b0", strings.Repeat("f0", 48), strings.Repeat("00", 47) + "10", "ff" + strings.Repeat("00", 46) + "01"} {
		w := made(t, 60)
		first, read := "op 1 7a - 0 9 -", "op 5 7a - 8 0 -"
		plays(t, w, [2]string{first, "0"}, [2]string{"op 3 7a - 8 0 " + block, "0"}, [2]string{read, "0 " + block})
		plays(t, w, [2]string{"flush", "0"}, [2]string{"mount", "0"}, [2]string{read, "0 " + block}) // now it stands in a bin
	}
}

// P19.2: what is no line is told so, and nothing happens; what is behind it goes on.
func TestPlayWrongLines(t *testing.T) {
	w := made(t, 60)
	script := []string{
		"", "?", "op 1 61 - 0 2 -", "flush ", "op 3 61 - 1 0 0100", " mount", "op 3 61 - 1 0 01", "crash", "CRASH 00", "set 1 00", "fuse 01",
		"op 5 61 - 1 0 -", "op 5 61 - 1 0 - = 0 01", "? form", "back +0", "flush",
	}
	want := []string{
		"? form", "? form", "op 1 61 - 0 2 - = 0", "? form", "? form", "? form", "op 3 61 - 1 0 01 = 0", "? form", "? form", "? form", "? form",
		"op 5 61 - 1 0 - = 0 01", "? form", "? form", "? form", "flush = 0",
	}
	kept := slices.Clone(script)
	if told := tale.Play(w, script); !slices.Equal(told, want) {
		t.Errorf("%q", told)
	}
	if !slices.Equal(script, kept) {
		t.Error("the script is changed")
	}
	if w.Now() != 4 {
		t.Errorf("%d events", w.Now())
	}
}

// Rule 3, rule 4: no lines, nothing told, and nothing happens; what is told is a list of its own.
func TestPlayNothing(t *testing.T) {
	w := made(t, 60)
	for _, script := range [][]string{nil, {}} {
		if told := tale.Play(w, script); len(told) != 0 || w.Now() != 0 {
			t.Errorf("%q, %d", told, w.Now())
		}
	}
	script := []string{"op 8 - - 0 0 -"}
	first, second := tale.Play(w, script), tale.Play(w, script)
	first[0] = "x"
	if script[0] != "op 8 - - 0 0 -" || second[0] != "op 8 - - 0 0 - = 0" {
		t.Errorf("%q, %q", script, second)
	}
}

// P19.2: a script in one piece, or line by line, is told the same.
func TestPlayInPieces(t *testing.T) {
	for seed := range uint64(20) {
		g := seeded(100 + seed)
		script := randomScript(g, 100)
		all := tale.Play(made(t, 80), script)
		w := made(t, 80)
		var pieces []string
		for len(script) > 0 {
			n := 1 + g.IntN(len(script))
			pieces = append(pieces, tale.Play(w, script[:n])...)
			script = script[n:]
		}
		if !slices.Equal(all, pieces) {
			t.Fatalf("seed %d: %q, not %q", seed, pieces, all)
		}
	}
}

// randomScript gives lines of events that often do something, and some that are none.
func randomScript(g *rand.Rand, count int) []string {
	names := []string{"61", "61", "61", "62", "63", "-", "20"}
	name := func() string { return names[g.IntN(len(names))] }
	var script []string
	for range count {
		block := []string{"-", "01", "02", "0003", strings.Repeat("ab", 48)}[g.IntN(5)]
		line := fmt.Sprintf("op %d %s %s %d %d %s", []int{1, 2, 3, 3, 3, 3, 4, 5, 5, 5, 5, 6, 7, 8, 9}[g.IntN(15)], name(), name(), g.IntN(6)-1, g.IntN(6)-1, block)
		switch k := g.IntN(100); {
		case k < 10:
			line = "flush"
		case k < 15:
			line = "collect"
		case k < 18:
			line = fmt.Sprintf("fuse %d", g.IntN(12))
		case k < 22:
			line = fmt.Sprintf("crash %02x%02x", g.IntN(256), g.IntN(256))
		case k < 24:
			line = "mount"
		case k < 25:
			line = fmt.Sprintf("set %d %02x", g.IntN(85)-1, 1+g.IntN(255))
		case k < 27:
			line = fmt.Sprintf("back %d", g.IntN(60)-30)
		case k < 30:
			line += []string{" ", "00", " = 0", "-"}[g.IntN(4)]
		}
		script = append(script, line)
	}
	return script
}

// P19.2: random scripts are told as a world answers the same events, and leave the world as those do.
func TestPlayRandom(t *testing.T) {
	ends := map[string]int{}
	for seed := range uint64(100) {
		script := randomScript(seeded(seed), 200)
		sectors := 20 + int(seed%3)*30
		played, w := made(t, sectors), made(t, sectors)
		told := tale.Play(played, script)
		if len(told) != len(script) {
			t.Fatalf("seed %d: %d lines", seed, len(told))
		}
		for i, line := range script {
			want := "? form"
			if isLine(line) {
				e, _ := tale.Read(line)
				a := w.Do(e)
				want = fmt.Sprintf("%s = %d", line, int(a.Err))
				if a.There {
					want += " " + plainShort(a.Block[:])
				}
			}
			if told[i] != want {
				t.Fatalf("seed %d, line %d: %q, not %q", seed, i, told[i], want)
			}
			_, end, _ := strings.Cut(want, "=")
			ends[end]++
		}
		if played.Now() != w.Now() || played.Cell().Bytes() != w.Cell().Bytes() || !slices.Equal(played.Disk().Image(), w.Disk().Image()) {
			t.Fatalf("seed %d: another world", seed)
		}
	}
	for _, end := range []string{"", " 0", " 1", " 2", " 4", " 5", " 6", " 7", " 8", " 10", " 11", " 0 -", " 0 01", " 0 0003"} {
		if ends[end] < 5 {
			t.Errorf("told of %q: %d times", end, ends[end])
		}
	}
}

// P2: the same script is told the same.
func TestPlayTwice(t *testing.T) {
	for seed := range uint64(10) {
		script := randomScript(seeded(200+seed), 150)
		if first, second := tale.Play(made(t, 70), script), tale.Play(made(t, 70), script); !slices.Equal(first, second) {
			t.Fatalf("seed %d: %q, not %q", seed, first, second)
		}
	}
}

// P1: lines of any bytes, and events with any numbers, are told.
func TestPlayAnything(t *testing.T) {
	g := seeded(3)
	w := made(t, 20)
	for range 300 {
		var script []string
		for range 5 {
			script = append(script, anyText(g), string(someBytes(g, 30)), tale.Line(someEvent(g)))
		}
		for i, told := range tale.Play(w, script) {
			if isLine(script[i]) != strings.HasPrefix(told, script[i]+" = ") || !isLine(script[i]) && told != "? form" {
				t.Fatalf("%q: %q", script[i], told)
			}
		}
	}
}

// P19.2: operations at the limits of names, quotas and numbers.
func TestPlayAtLimits(t *testing.T) {
	w := made(t, 60)
	long := strings.Repeat("61", api.MaxName)
	plays(t, w,
		[2]string{"op 1 " + long + " - 0 1048576 -", "0"},
		[2]string{"op 1 " + long + "61 - 0 1 -", "1"},
		[2]string{"op 1 62 - 0 1048577 -", "1"},
		[2]string{"op 3 " + long + " - 1048575 0 07", "0"},
		[2]string{"op 3 " + long + " - 1048576 0 07", "2"},
		[2]string{"op 7 " + long + " 62 0 0 -", "8"},
		[2]string{"op 7 " + long + " 62 0 1 -", "0"},
		[2]string{"op 5 62 - 1048575 0 -", "0 07"},
		[2]string{"op 5 - - 0 0 -", "5"},
	)
}
