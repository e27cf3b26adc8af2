package audit_test

import (
	"math/rand/v2"
	"slices"
	"testing"

	"sporran/api"
	"sporran/audit"
	"sporran/commit"
	"sporran/trie"
	"sporran/volume"
)

// plainCheck is Check told once more: all that must be so is asked at once, that of epoch 1 first.
func plainCheck(counter uint64, root api.Digest, rows [][]byte) (audit.Story, bool) {
	if uint64(len(rows)) != counter {
		return audit.Story{}, false
	}
	prev := api.Ref{} // what the next one's Prev must be, as to its digest
	s := audit.Story{Epoch: counter}
	so := true
	for i := len(rows) - 1; i >= 0; i-- {
		c, err := commit.Decode(rows[i])
		so = so && err == api.OK && c.Epoch == uint64(len(rows)-i) && c.Prev.Digest == prev.Digest
		so = so && (i < len(rows)-1 || c.Prev == prev)
		prev.Digest = tagged(3, rows[i])
		s.States = append(s.States, c.State)
		s.Events = append(s.Events, c.Events...)
	}
	if !so || prev.Digest != root {
		return audit.Story{}, false
	}
	return s, true
}

// meddled gives rows of which one, or two, are another thing than they were.
func meddled(g *rand.Rand, rows [][]byte) [][]byte {
	rows = copied(rows)
	if len(rows) == 0 {
		return [][]byte{{}}
	}
	i, j := g.IntN(len(rows)), g.IntN(len(rows))
	switch g.IntN(6) {
	case 0:
		rows[i], rows[j] = rows[j], rows[i]
	case 1:
		rows[i] = slices.Clone(rows[j])
	case 2:
		rows = slices.Delete(rows, i, i+1)
	case 3:
		rows = slices.Insert(rows, i, rows[j])
	case 4:
		rows[i][g.IntN(len(rows[i]))] ^= 1 << g.IntN(8)
	case 5:
		at := g.IntN(len(rows[i]))
		rows[i] = slices.Concat(rows[i][:at], rows[j][min(at, len(rows[j])):])
	}
	return rows
}

// almost gives commits that hang on one another, and now and then something about them that isn't as it must be.
func almost(g *rand.Rand) (counter uint64, root api.Digest, rows [][]byte) {
	n := g.IntN(6)
	var last api.Digest
	for i, c := range some(n) {
		c.Prev.Digest = last
		switch g.IntN(30) {
		case 0:
			c.Epoch += uint64(g.IntN(3))
		case 1:
			c.Prev.Digest = finger(byte(i))
		case 2:
			c.Prev.At++
		case 3:
			c.Prev.Len++
		}
		b, _ := commit.Encode(c)
		if g.IntN(30) == 0 {
			b = append(b, 0)
		}
		rows = append(rows, b)
		last = tagged(3, b)
	}
	slices.Reverse(rows)
	counter = uint64(n)
	switch g.IntN(15) {
	case 0:
		counter++
	case 1:
		counter--
	case 2:
		last[g.IntN(32)]++
	case 3:
		rows = meddled(g, rows)
	}
	return counter, last, rows
}

// P17.1: random rows, right ones and almost right ones, against a second telling.
func TestRandomCheck(t *testing.T) {
	right := 0
	for seed := range uint64(6000) {
		counter, root, rows := almost(seeded(seed))
		want, so := plainCheck(counter, root, rows)
		if !so {
			refuses(t, "almost right", counter, root, rows)
			continue
		}
		right++
		tells(t, want, counter, root, rows)
	}
	if right < 1000 || right > 5000 {
		t.Errorf("%d times it was right", right)
	}
}

// P17.2: random stories, epochs, blocks and nodes, against what is known of the tries.
func TestRandomBlock(t *testing.T) {
	for seed := range uint64(60) {
		g := seeded(seed)
		set := volume.New()
		set.Create("a", 50)
		var s audit.Story
		var tries []*trie.Trie
		for range 1 + g.IntN(5) {
			for range g.IntN(12) {
				set.Put("a", g.IntN(8), finger(byte(g.IntN(9))))
				set.Drop("a", g.IntN(8))
			}
			tries = append(tries, set.Trie())
			s.States = append(s.States, set.Trie().Root())
			s.Epoch++
		}
		for range 60 {
			epoch, number := g.IntN(len(tries)+2), g.IntN(9)
			key := volume.Key("a", number)
			from := tries[g.IntN(len(tries))]
			nodes := from.Prove(key)
			if epoch < 1 || epoch > len(tries) {
				fails(t, api.ErrRange, s, uint64(epoch), "a", number, nodes)
				continue
			}
			if slices.EqualFunc(nodes, tries[epoch-1].Prove(key), slices.Equal) {
				value, there := tries[epoch-1].Get(key)
				var want api.Digest
				copy(want[:], value)
				shows(t, s, uint64(epoch), "a", number, nodes, want, there)
			} else {
				fails(t, api.ErrForm, s, uint64(epoch), "a", number, nodes)
			}
		}
	}
}

// The plain telling itself, at what is said by hand elsewhere.
func TestPlain(t *testing.T) {
	ch := linked(t, some(4)...)
	if s, so := plainCheck(4, ch.root(), ch.handed()); !so || !sameStory(s, ch.told()) {
		t.Errorf("%v, %v", s, so)
	}
	if _, so := plainCheck(4, ch.root(), ch.rows); so {
		t.Error("the first one first")
	}
	if _, so := plainCheck(0, api.Digest{1}, nil); so {
		t.Error("a root and no commits")
	}
}
