package audit_test

import (
	"bytes"
	"math"
	"slices"
	"strings"
	"testing"

	"sporran/api"
	"sporran/audit"
	"sporran/trie"
	"sporran/volume"
)

// shows asks what nodes show of a block.
func shows(t *testing.T, s audit.Story, epoch uint64, name string, number int, nodes [][]byte, want api.Digest, there bool) {
	t.Helper()
	got, is, err := audit.Block(s, epoch, name, number, nodes)
	if err != api.OK || is != there || got != want {
		t.Errorf("%q %d of %d: %v, %v, %v", name, number, epoch, got, is, err)
	}
}

// fails asks for an error, and nothing beside it.
func fails(t *testing.T, want api.Errno, s audit.Story, epoch uint64, name string, number int, nodes [][]byte) {
	t.Helper()
	got, is, err := audit.Block(s, epoch, name, number, nodes)
	if err != want || is || got != (api.Digest{}) {
		t.Errorf("%q %d of %d: %v, %v, %v, not %v", name, number, epoch, got, is, err, want)
	}
}

// grown gives a story of three epochs, and their tries.
func grown() (audit.Story, []*trie.Trie) {
	var tries []*trie.Trie
	s := audit.Story{Epoch: 3}
	set := volume.New()
	set.Create("a", 9)
	set.Create("b", 9)
	for epoch := range 3 {
		set.Put("a", epoch, finger(byte(epoch)))
		set.Put("b", 0, finger(byte(100+epoch)))
		set.Drop("a", epoch-2)
		tries = append(tries, set.Trie())
		s.States = append(s.States, set.Trie().Root())
	}
	return s, tries
}

// P17.2: what a block was in each epoch.
func TestBlock(t *testing.T) {
	s, tries := grown()
	for epoch := uint64(1); epoch <= 3; epoch++ {
		prove := func(name string, number int) [][]byte { return tries[epoch-1].Prove(volume.Key(name, number)) }
		for number := range 4 {
			there := number < int(epoch) && !(epoch == 3 && number == 0)
			want := api.Digest{}
			if there {
				want = finger(byte(number))
			}
			shows(t, s, epoch, "a", number, prove("a", number), want, there)
		}
		shows(t, s, epoch, "b", 0, prove("b", 0), finger(byte(99+epoch)), true)
		for _, name := range []string{"", "c", "aa", "a\x00", "no name", strings.Repeat("a", 21), strings.Repeat("\xff", 300)} {
			for _, number := range []int{0, -1, math.MinInt, math.MaxInt, api.MaxBlocks} {
				shows(t, s, epoch, name, number, prove(name, number), api.Digest{}, false)
			}
		}
	}
}

// P17.2: ErrRange, if the story has no such epoch, whatever the nodes are.
func TestBlockOfNoEpoch(t *testing.T) {
	s, tries := grown()
	right := tries[2].Prove(volume.Key("a", 1))
	for _, nodes := range [][][]byte{nil, {{}}, right} {
		for _, epoch := range []uint64{0, 4, 5, 1 << 32, 1<<32 + 1, 1 << 63, 1<<63 + 1, math.MaxUint64} {
			fails(t, api.ErrRange, s, epoch, "a", 1, nodes)
		}
		for _, epoch := range []uint64{0, 1, 2, math.MaxUint64} {
			fails(t, api.ErrRange, audit.Story{}, epoch, "a", 1, nodes)
		}
	}
	shows(t, s, 3, "a", 1, right, finger(1), true)
}

// P1, P17.2: anybody may make a story, also one in which Epoch and States tell different numbers of epochs.
func TestStoryByHand(t *testing.T) {
	s, tries := grown()
	right := tries[2].Prove(volume.Key("a", 1))
	s.Epoch = 2
	fails(t, api.ErrRange, s, 3, "a", 1, right)
	s.Epoch = math.MaxUint64
	shows(t, s, 3, "a", 1, right, finger(1), true)
	for _, epoch := range []uint64{0, 4, 1 << 63, math.MaxUint64} {
		fails(t, api.ErrRange, s, epoch, "a", 1, right)
	}
	s.States = nil
	fails(t, api.ErrRange, s, 1, "a", 1, right)
}

// P17.2: layer 9's ErrForm.
func TestBlockOfOtherNodes(t *testing.T) {
	s, tries := grown()
	key := volume.Key("a", 1)
	for epoch := uint64(1); epoch <= 3; epoch++ {
		for other := range uint64(3) {
			nodes := tries[other].Prove(key)
			if other+1 != epoch {
				fails(t, api.ErrForm, s, epoch, "a", 1, nodes)
			}
		}
		right := tries[epoch-1].Prove(key)
		fails(t, api.ErrForm, s, epoch, "a", 1, nil)
		fails(t, api.ErrForm, s, epoch, "a", 1, append(slices.Clone(right), []byte{}))
		fails(t, api.ErrForm, s, epoch, "a", 1, right[1:])
		fails(t, api.ErrForm, s, epoch, "a", 1, right[:len(right)-1])
		for n := range right {
			for at := range right[n] {
				nodes := copied(right)
				nodes[n][at] ^= 1
				fails(t, api.ErrForm, s, epoch, "a", 1, nodes)
			}
		}
	}
}

// P17.2: no nodes show that nothing is there, in an epoch in which nothing was, and in no other one.
func TestNoNodes(t *testing.T) {
	s := audit.Story{Epoch: 3, States: []api.Digest{tagged(5), tagged(5, nil), {}}}
	shows(t, s, 1, "a", 0, nil, api.Digest{}, false)
	shows(t, s, 1, "", -1, [][]byte{}, api.Digest{}, false)
	fails(t, api.ErrForm, s, 1, "a", 0, [][]byte{{}})
	for epoch := uint64(2); epoch <= 3; epoch++ {
		fails(t, api.ErrForm, s, epoch, "a", 0, nil)
	}
}

// P17.2: a fingerprint has 32 bytes, whatever the nodes show.
func TestValues(t *testing.T) {
	for _, n := range []int{0, 1, 31, 32, 33, 64, 1000} {
		tr := trie.New()
		value := bytes.Repeat([]byte{7}, n)
		tr.Put(volume.Key("a", 1), value)
		for range 2 {
			s := audit.Story{Epoch: 1, States: []api.Digest{tr.Root()}}
			nodes := tr.Prove(volume.Key("a", 1))
			if n == 32 {
				shows(t, s, 1, "a", 1, nodes, api.Digest(value), true)
			} else {
				fails(t, api.ErrForm, s, 1, "a", 1, nodes)
			}
			none := volume.Key("a", 3)
			shows(t, s, 1, "a", 3, tr.Prove(none), api.Digest{}, false) // the value of another one is nothing to it
			tr.Put(volume.Key("a", 2), make([]byte, 32))
		}
	}
}

// P17.2: a fingerprint of noughts is there.
func TestZeroFingerprint(t *testing.T) {
	set := volume.New()
	set.Create("a", 9)
	set.Put("a", 1, api.Digest{})
	s := audit.Story{Epoch: 1, States: []api.Digest{set.Trie().Root()}}
	shows(t, s, 1, "a", 1, set.Trie().Prove(volume.Key("a", 1)), api.Digest{}, true)
	shows(t, s, 1, "a", 2, set.Trie().Prove(volume.Key("a", 2)), api.Digest{}, false)
}

// P17.2: a number is taken modulo 2^64, as the Key has it, and names are told from numbers.
func TestKeys(t *testing.T) {
	tr := trie.New()
	tr.Put(tagged(7, []byte("a"), []byte{172, 2}), make([]byte, 32))
	tr.Put(tagged(7, nil, slices.Concat(bytes.Repeat([]byte{255}, 9), []byte{1})), bytes.Repeat([]byte{1}, 32))
	s := audit.Story{Epoch: 1, States: []api.Digest{tr.Root()}}
	shows(t, s, 1, "a", 300, tr.Prove(volume.Key("a", 300)), api.Digest{}, true)
	shows(t, s, 1, "", -1, tr.Prove(volume.Key("", -1)), api.Digest(bytes.Repeat([]byte{1}, 32)), true)
}

// Rule 4: neither the story nor the nodes are changed.
func TestBlockChangesNothing(t *testing.T) {
	s, tries := grown()
	s.Events = [][]byte{{1}, {2}}
	states, events := slices.Clone(s.States), copied(s.Events)
	nodes := tries[1].Prove(volume.Key("a", 1))
	kept := copied(nodes)
	for epoch := range uint64(5) {
		audit.Block(s, epoch, "a", 1, nodes)
	}
	if !slices.Equal(s.States, states) || !slices.EqualFunc(s.Events, events, bytes.Equal) || !slices.EqualFunc(nodes, kept, bytes.Equal) {
		t.Error("changed")
	}
}
