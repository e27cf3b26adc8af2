package audit_test

import (
	"bytes"
	"crypto/sha256"
	"encoding/binary"
	"math/rand/v2"
	"slices"
	"testing"

	"sporran/api"
	"sporran/audit"
	"sporran/commit"
)

// tagged is layer 2's, told once more, by the library.
func tagged(use byte, rows ...[]byte) api.Digest {
	b := []byte{use}
	for _, row := range rows {
		b = append(binary.AppendUvarint(b, uint64(len(row))), row...)
	}
	return sha256.Sum256(b)
}

// finger gives one of 256 fingerprints.
func finger(n byte) api.Digest { return tagged(6, []byte{n}) }

// chain is commits that hang on one another, that of epoch 1 first, and their bytes.
type chain struct {
	commits []api.Commit
	rows    [][]byte
}

// linked lets commits have the digests of those ahead of them, and encodes them.
func linked(t *testing.T, commits ...api.Commit) chain {
	t.Helper()
	var ch chain
	for _, c := range commits {
		if n := len(ch.rows); n > 0 {
			c.Prev.Digest = tagged(3, ch.rows[n-1])
		}
		b, err := commit.Encode(c)
		if err != api.OK {
			t.Fatalf("Encode of %v: %v", c, err)
		}
		ch.commits, ch.rows = append(ch.commits, c), append(ch.rows, b)
	}
	return ch
}

// handed gives the rows as they are handed over, the last one first.
func (ch chain) handed() [][]byte {
	rows := slices.Clone(ch.rows)
	slices.Reverse(rows)
	return rows
}

// root gives the cell's root.
func (ch chain) root() api.Digest {
	if len(ch.rows) == 0 {
		return api.Digest{}
	}
	return tagged(3, ch.rows[len(ch.rows)-1])
}

// told gives the story of the chain.
func (ch chain) told() audit.Story {
	s := audit.Story{Epoch: uint64(len(ch.commits))}
	for _, c := range ch.commits {
		s.States = append(s.States, c.State)
		s.Events = slices.Concat(s.Events, c.Events)
	}
	return s
}

// some gives so many commits that fit one behind the other, each with other states and events.
func some(n int) []api.Commit {
	var commits []api.Commit
	for i := range n {
		c := api.Commit{Epoch: uint64(i + 1), State: finger(byte(i)), Volumes: api.Ref{At: i, Len: 7}}
		for j := range i % 4 {
			c.Events = append(c.Events, []byte{byte(i), byte(j), 1}[:3-j])
		}
		if i > 0 {
			c.Prev = api.Ref{At: 2 + i, Len: 100 + i}
		}
		commits = append(commits, c)
	}
	return commits
}

func sameStory(a, b audit.Story) bool {
	return a.Epoch == b.Epoch && slices.Equal(a.States, b.States) && slices.EqualFunc(a.Events, b.Events, bytes.Equal)
}

// tells asks that commits are checked, and for their story.
func tells(t *testing.T, want audit.Story, counter uint64, root api.Digest, rows [][]byte) {
	t.Helper()
	got, err := audit.Check(counter, root, rows)
	if err != api.OK || !sameStory(got, want) {
		t.Errorf("Check of %d: %v, %v, not %v", counter, got, err, want)
	}
}

// refuses asks that commits aren't checked.
func refuses(t *testing.T, what string, counter uint64, root api.Digest, rows [][]byte) {
	t.Helper()
	got, err := audit.Check(counter, root, rows)
	if err != api.ErrForm || got.Epoch != 0 || len(got.States) > 0 || len(got.Events) > 0 {
		t.Errorf("%s: %v, %v", what, got, err)
	}
}

func copied(rows [][]byte) [][]byte {
	rows = slices.Clone(rows)
	for i := range rows {
		rows[i] = bytes.Clone(rows[i])
	}
	return rows
}

func seeded(seed uint64) *rand.Rand { return rand.New(rand.NewPCG(17, seed)) }
