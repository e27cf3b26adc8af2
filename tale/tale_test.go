package tale_test

import (
	"bytes"
	"math"
	"slices"
	"strings"
	"testing"

	"sporran/api"
	"sporran/tale"
)

const (
	greatest = "9223372036854775807"
	least    = "-9223372036854775808"
)

// lines are events, and their lines, said by hand.
func lines() map[string]api.Event {
	full := api.Op{Kind: api.OpWrite, Name: "a", Other: "b c", Number: 12, Quota: -7, Block: api.Block{1, 0, 0xab}}
	block, sector := api.Block{}, api.Sector{}
	for i := range block {
		block[i] = 0xf0
	}
	for i := range sector {
		sector[i] = 0x0f
	}
	return map[string]api.Event{
		"op 0 - - 0 0 -":                                  does(api.Op{}),
		"op 1 61 - 0 5 -":                                 does(api.Op{Kind: api.OpCreate, Name: "a", Quota: 5}),
		"op 3 61 622063 12 -7 0100ab":                     does(full),
		"op 8 - - 0 0 -":                                  does(api.Op{Kind: api.OpList}),
		"op 9 - - 0 0 -":                                  does(api.Op{Kind: 9}),
		"op -1 - - -10 100 -":                             does(api.Op{Kind: -1, Number: -10, Quota: 100}),
		"op 5 - 2d 0 0 -":                                 does(api.Op{Kind: 5, Other: "-"}),
		"op 5 00 0000 0 0 -":                              does(api.Op{Kind: 5, Name: "\x00", Other: "\x00\x00"}),
		"op 5 61ff00 c3a9 0 0 -":                          does(api.Op{Kind: 5, Name: "a\xff\x00", Other: "é"}),
		"op 3 - - 0 0 10":                                 does(api.Op{Kind: 3, Block: api.Block{0x10}}),
		"op 3 - - 0 0 0001":                               does(api.Op{Kind: 3, Block: api.Block{0, 1}}),
		"op 0 - - " + greatest + " 0 -":                   does(api.Op{Number: math.MaxInt}),
		"op " + least + " - - 0 " + greatest + " -":       does(api.Op{Kind: math.MinInt, Quota: math.MaxInt}),
		"op 3 - - 0 0 " + strings.Repeat("00", 47) + "09": does(api.Op{Kind: 3, Block: api.Block{47: 9}}),
		"op 3 - - 0 0 " + strings.Repeat("f0", 48):        does(api.Op{Kind: 3, Block: block}),
		"op 2 " + strings.Repeat("7a", 300) + " - 0 0 -":  does(api.Op{Kind: 2, Name: strings.Repeat("z", 300)}),
		"flush":            {Kind: api.EvFlush},
		"collect":          {Kind: api.EvCollect},
		"mount":            {Kind: api.EvMount},
		"fuse 3":           {Kind: api.EvFuse, N: 3},
		"fuse 0":           {Kind: api.EvFuse},
		"fuse -3":          {Kind: api.EvFuse, N: -3},
		"fuse " + least:    {Kind: api.EvFuse, N: math.MinInt},
		"back 1000":        {Kind: api.EvBack, N: 1000},
		"back -1":          {Kind: api.EvBack, N: -1},
		"back " + greatest: {Kind: api.EvBack, N: math.MaxInt},
		"crash -":          {Kind: api.EvCrash},
		"crash 00":         {Kind: api.EvCrash, Picks: []byte{0}},
		"crash 0100":       {Kind: api.EvCrash, Picks: []byte{1, 0}},
		"crash 0aff9000":   {Kind: api.EvCrash, Picks: []byte{10, 255, 0x90, 0}},
		"set 0 -":          {Kind: api.EvSet},
		"set -1 09":        {Kind: api.EvSet, At: -1, Sector: api.Sector{9}},
		"set 65535 0000a0": {Kind: api.EvSet, At: 65535, Sector: api.Sector{2: 0xa0}},
		"set " + greatest + " " + strings.Repeat("0f", 64): {Kind: api.EvSet, At: math.MaxInt, Sector: sector},
		"set 1 " + strings.Repeat("00", 63) + "01":         {Kind: api.EvSet, At: 1, Sector: api.Sector{63: 1}},
	}
}

// The chapter's example.
func TestExample(t *testing.T) {
	if s := tale.Line(api.Event{Kind: api.EvFuse, N: 3}); s != "fuse 3" {
		t.Errorf("%q", s)
	}
}

// P19.1: each line, said by hand, both ways.
func TestLinesByHand(t *testing.T) {
	for line, e := range lines() {
		if s := tale.Line(e); s != line {
			t.Errorf("Line of %v: %q, not %q", e, s, line)
		}
		reads(t, line, e)
	}
}

// P19.1: what its Kind doesn't tell is no word of an event, and nothing in what is read.
func TestOtherFieldsAreNothing(t *testing.T) {
	for line, e := range lines() {
		full := api.Event{Kind: e.Kind, At: 7, N: 8, Op: api.Op{Kind: 1, Name: "n", Other: "o", Number: 2, Quota: 3, Block: api.Block{4}}, Sector: api.Sector{5}, Picks: []byte{6}}
		switch e.Kind {
		case api.EvOp:
			full.Op = e.Op
		case api.EvFuse, api.EvBack:
			full.N = e.N
		case api.EvCrash:
			full.Picks = e.Picks
		case api.EvSet:
			full.At, full.Sector = e.At, e.Sector
		}
		if s := tale.Line(full); s != line {
			t.Errorf("Line of %v: %q, not %q", full, s, line)
		}
	}
}

// P19.1: an event of another Kind is ?, whatever else it has; that is no line for Read.
func TestOtherKinds(t *testing.T) {
	for _, kind := range []int{0, -1, 9, 10, 255, 256, 257, 1 << 32, 1<<32 + 1, math.MinInt, math.MaxInt} {
		for _, e := range []api.Event{{Kind: kind}, {Kind: kind, At: 1, N: 2, Op: api.Op{Kind: 3, Name: "a"}, Picks: []byte{4}}} {
			if s := tale.Line(e); s != "?" {
				t.Errorf("Line of the Kind %d: %q", kind, s)
			}
		}
	}
	for _, line := range []string{"?", "? ", " ?", "??", "? 0", "? form", "? -"} {
		refuses(t, line)
	}
}

// P19.1: an operation's Kind is any number.
func TestKindsOfOperations(t *testing.T) {
	for kind := -20; kind < 20; kind++ {
		e := does(api.Op{Kind: kind, Name: "x"})
		reads(t, tale.Line(e), e)
	}
}

// P19.1: numbers as they aren't told.
func TestWrongNumbers(t *testing.T) {
	for _, n := range []string{
		"", "-", "--1", "+1", "+0", "-0", "00", "01", "-01", "007", "1-", "1 ", " 1", "1.0", "1e3", "0x1", "1_000", "1,000", "a", "٣", "３", "1\x00", "1\n", "−1",
		"9223372036854775808", "-9223372036854775809", "18446744073709551615", "18446744073709551617", strings.Repeat("9", 1000), "-" + strings.Repeat("1", 1000), strings.Repeat("0", 1000) + "1",
	} {
		for _, line := range []string{
			"fuse " + n, "back " + n, "set " + n + " -", "op " + n + " - - 0 0 -", "op 0 - - " + n + " 0 -", "op 0 - - 0 " + n + " -",
		} {
			refuses(t, line)
		}
	}
}

// P19.1: bytes as they aren't told.
func TestWrongBytes(t *testing.T) {
	for _, b := range []string{
		"", "0", "a", "000", "0a0", "A0", "0A", "FF", "fF", "0g", "g0", "0x00", "x0", "--", "-00", "00-", "- ", " -", "0 0", "zz", "\x000", "0\xff", "é", "+1", "-1", "_0", "1_", "0:", "/0", "0`", "@0", "00 00", "0\n",
	} {
		for _, line := range []string{
			"crash " + b, "set 0 " + b, "op 0 " + b + " - 0 0 -", "op 0 - " + b + " 0 0 -", "op 0 - - 0 0 " + b,
		} {
			refuses(t, line)
		}
	}
}

// P19.1: each byte as two digits, and no other two signs are one.
func TestEachTwoSigns(t *testing.T) {
	const digits = "0123456789abcdef"
	for high := range 256 {
		for low := range 256 {
			pair := string([]byte{byte(high), byte(low)})
			h, l := strings.IndexByte(digits, byte(high)), strings.IndexByte(digits, byte(low))
			if h < 0 || l < 0 {
				refuses(t, "crash "+pair)
				continue
			}
			e := api.Event{Kind: api.EvCrash, Picks: []byte{byte(16*h + l)}}
			reads(t, "crash "+pair, e)
			if tale.Line(e) != "crash "+pair {
				t.Errorf("%q", tale.Line(e))
			}
		}
	}
}

// P19.1: of a block, and of a sector, bytes of 0 at the end are left out; so they aren't read there; nor are more than there is room for.
func TestNoughtsAtTheEnd(t *testing.T) {
	for head, room := range map[string]int{"op 3 61 - 0 0 ": api.BlockBytes, "set 5 ": api.SectorBytes} {
		for n := range room + 1 {
			word := strings.Repeat("0a", n) + "-"[:min(1, max(0, 1-n))]
			e, err := tale.Read(head + word)
			if err != api.OK || tale.Line(e) != head+word {
				t.Fatalf("%s, %d bytes: %v, %q", head, n, err, tale.Line(e))
			}
			b := slices.Concat(e.Op.Block[:], e.Sector[:])
			if bytes.Count(b, []byte{10}) != n || bytes.Count(b, []byte{0}) != len(b)-n {
				t.Errorf("%s, %d bytes: %v", head, n, b)
			}
			for more := 1; more < 70; more++ {
				refuses(t, head+strings.Repeat("0a", n)+strings.Repeat("00", more))
			}
		}
		for _, more := range []int{1, 2, 16, 1000} {
			refuses(t, head+strings.Repeat("0a", room+more))
			refuses(t, head+strings.Repeat("0a", room)+strings.Repeat("00", more))
			refuses(t, head+strings.Repeat("00", room)+strings.Repeat("0a", more))
		}
		reads(t, "crash 0a00", api.Event{Kind: api.EvCrash, Picks: []byte{10, 0}}) // of bytes they aren't left out
	}
}

// P19.1: words too few, too many, in another order, in another case, with other blanks.
func TestWrongWords(t *testing.T) {
	for line := range lines() {
		words := strings.Split(line, " ")
		for _, s := range []string{
			line + " ", " " + line, line + " -", line + " 0", line + " 00", line + "\n", line + "\r\n", "\t" + line, line + "\x00",
			strings.ToUpper(line), strings.ToTitle(line[:1]) + line[1:], "x" + line, line + " " + line, line + ";" + line,
			strings.Repeat(line+" ", 3), words[0] + "s" + line[len(words[0]):], words[0][1:] + line[len(words[0]):],
		} {
			refuses(t, s)
		}
		if len(words) == 1 {
			continue
		}
		refuses(t, strings.ReplaceAll(line, " ", "  "))
		refuses(t, strings.ReplaceAll(line, " ", "\t"))
		refuses(t, strings.ReplaceAll(line, " ", ""))
		for n := range words {
			refuses(t, strings.Join(words[:n], " "))
			refuses(t, strings.Join(words[:n], " ")+" ")
			if n > 0 {
				refuses(t, strings.Join(words[n:], " "))
			}
		}
	}
	for _, s := range []string{"", " ", "-", "0", "op", "fuse", "crash", "set", "set 1", "back", "flush -", "collect 0", "mount 0", "mounted", "flus", "fuse 3 = 0", "flush = 0", "read", "\xff", "op 3 61 - 0 0 01 = 0"} {
		refuses(t, s)
	}
}

// Rule 4: picks are neither changed nor kept, and what is read of one line is new memory each time.
func TestMemoryIsItsOwn(t *testing.T) {
	picks := []byte{1, 2, 0}
	if s := tale.Line(api.Event{Kind: api.EvCrash, Picks: picks}); s != "crash 010200" || !bytes.Equal(picks, []byte{1, 2, 0}) {
		t.Errorf("%q, %v", s, picks)
	}
	first, _ := tale.Read("crash 010200")
	second, _ := tale.Read("crash 010200")
	first.Picks[0] = 9
	clear(first.Picks[:cap(first.Picks)])
	if !bytes.Equal(second.Picks, picks) {
		t.Errorf("%v", second.Picks)
	}
	reads(t, "crash 010200", api.Event{Kind: api.EvCrash, Picks: picks})
}

// P1, P19.1: long ones.
func TestLong(t *testing.T) {
	many := bytes.Repeat([]byte{0x5a}, 1<<20)
	for _, e := range []api.Event{{Kind: api.EvCrash, Picks: many}, does(api.Op{Kind: 1, Name: string(many), Other: string(many)})} {
		reads(t, tale.Line(e), e)
	}
	for _, s := range []string{"op", "set", "flush", "fuse", "crash", ""} {
		refuses(t, s+strings.Repeat(" ", 1<<20))
		refuses(t, s+strings.Repeat(" 0", 1<<20))
		refuses(t, s+" "+strings.Repeat("0", 1<<20+1))
	}
}
