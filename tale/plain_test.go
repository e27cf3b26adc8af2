package tale_test

import (
	"fmt"
	"math/rand/v2"
	"regexp"
	"strconv"
	"strings"
	"testing"

	"sporran/api"
	"sporran/tale"
)

// plainHex is bytes as a word, told once more.
func plainHex(b []byte) string {
	if s := fmt.Sprintf("%x", b); s != "" {
		return s
	}
	return "-"
}

// plainShort is bytes as a word, without the bytes of 0 at the end.
func plainShort(b []byte) string {
	s := fmt.Sprintf("%x", b)
	for strings.HasSuffix(s, "00") && len(s)%2 == 0 {
		s = s[:len(s)-2]
	}
	if s == "" {
		return "-"
	}
	return s
}

// plainLine is Line, told once more.
func plainLine(e api.Event) string {
	o := e.Op
	switch e.Kind {
	case 1:
		return fmt.Sprintf("op %d %s %s %d %d %s", o.Kind, plainHex([]byte(o.Name)), plainHex([]byte(o.Other)), o.Number, o.Quota, plainShort(o.Block[:]))
	case 2:
		return "flush"
	case 3:
		return "collect"
	case 4:
		return fmt.Sprintf("fuse %d", e.N)
	case 5:
		return "crash " + plainHex(e.Picks)
	case 6:
		return "mount"
	case 7:
		return fmt.Sprintf("set %d %s", e.At, plainShort(e.Sector[:]))
	case 8:
		return fmt.Sprintf("back %d", e.N)
	}
	return "?"
}

// form tells by a pattern which texts are lines, but that numbers may be too great.
var form = func() *regexp.Regexp {
	number, some := `(?:0|-?[1-9][0-9]*)`, `(?:-|(?:[0-9a-f]{2})+)`
	short := func(most int) string {
		return fmt.Sprintf(`(?:-|(?:[0-9a-f]{2}){0,%d}(?:[1-9a-f][0-9a-f]|0[1-9a-f]))`, most-1)
	}
	return regexp.MustCompile(`\A(?:` + strings.Join([]string{
		"op " + strings.Join([]string{number, some, some, number, number, short(48)}, " "),
		"flush", "collect", "mount", "fuse " + number, "back " + number, "crash " + some, "set " + number + " " + short(64),
	}, "|") + `)\z`)
}()

// isLine tells whether a text is the line of an event.
func isLine(s string) bool {
	if !form.MatchString(s) {
		return false
	}
	words := strings.Split(s, " ")
	at := map[string][]int{"op": {1, 4, 5}, "fuse": {1}, "back": {1}, "set": {1}}[words[0]]
	for _, i := range at {
		if _, err := strconv.ParseInt(words[i], 10, strconv.IntSize); err != nil {
			return false
		}
	}
	return true
}

// holds asks that a text is read if, and only if, it is a line, and then as the event whose line it is.
func holds(t *testing.T, s string) bool {
	t.Helper()
	if !isLine(s) {
		refuses(t, s)
		return false
	}
	e, err := tale.Read(s)
	if err != api.OK || plainLine(e) != s || !same(e, only(e)) {
		t.Errorf("Read of %.200q: %.200q, %v", s, plainLine(e), err)
	}
	return true
}

// P19.1: random events as lines, and back.
func TestRandomEvents(t *testing.T) {
	g := seeded(1)
	for range 60000 {
		e := someEvent(g)
		line := tale.Line(e)
		if want := plainLine(e); line != want {
			t.Fatalf("Line of %v: %q, not %q", e, line, want)
		}
		if line == "?" {
			refuses(t, line)
		} else {
			reads(t, line, only(e))
		}
	}
}

// P19.1: of lines each byte is changed to each other one, taken out, or doubled.
func TestEachByteOfLines(t *testing.T) {
	right := 0
	for line := range lines() {
		if len(line) > 100 {
			continue
		}
		for at := range len(line) {
			for v := range 256 {
				if holds(t, line[:at]+string([]byte{byte(v)})+line[at+1:]) {
					right++
				}
				if holds(t, line[:at]+string([]byte{byte(v)})+line[at:]) {
					right++
				}
			}
			holds(t, line[:at]+line[at+1:])
			holds(t, line[:at])
			holds(t, line[at:])
		}
	}
	if right < 1000 {
		t.Errorf("only %d of these are lines", right)
	}
}

// anyText gives a text of words that may stand in lines, or nearly.
func anyText(g *rand.Rand) string {
	pick := func(of ...string) string { return of[g.IntN(len(of))] }
	words := []string{pick("op", "op", "flush", "collect", "fuse", "crash", "mount", "set", "back", "?", "", "Op", "trim")}
	for range []int{0, 1, 1, 2, 2, 6, 6, 6, 7}[g.IntN(9)] {
		words = append(words, pick("0", "1", "-1", "12", "00", "0a", "ff00", "00ff", "-", "-", "10", "-0", "+1", "", "9223372036854775807", "9223372036854775808"))
	}
	return strings.Join(words, pick(" ", " ", " ", " ", " ", "  ", "\t"))
}

// P19.1, P1: random words, and random bytes, against the pattern.
func TestRandomTexts(t *testing.T) {
	g := seeded(2)
	right := 0
	for range 200000 {
		if holds(t, anyText(g)) {
			right++
		}
		holds(t, string(someBytes(g, 12)))
	}
	if right < 5000 {
		t.Errorf("only %d of these are lines", right)
	}
}
