package volume_test

import (
	"bytes"
	"crypto/sha256"
	"encoding/hex"
	"math"
	"math/rand/v2"
	"slices"
	"strconv"
	"strings"
	"testing"

	"sporran/api"
	"sporran/trie"
	"sporran/volume"
)

// at gives the fingerprint of noughts, but for one byte at a place.
func at(place int, b byte) api.Digest {
	var d api.Digest
	d[place] = b
	return d
}

func finger(i int) api.Digest { return sha256.Sum256([]byte(strconv.Itoa(i))) }

// a volume may have these names.
func names() []string {
	return []string{"a", "!", "~", "0", "A", "-", ".", "..", "/", "\"", "\\", "aa", "!~", "a/b", strings.Repeat("~", 19), strings.Repeat("!", 20), "abcdefghijklmnopqrst", "VOL#1{x}"}
}

// no volume may have these ones.
func noNames() []string {
	none := []string{"", " ", "a b", " a", "a ", "a\x00", "\x00", "a\n", "\x7f", "a\x7f", "\x80", "\xff", "é", "aé", "☃", "a☃b", "ａ", strings.Repeat("a", 21), strings.Repeat("a", 20) + " ", strings.Repeat("é", 10), strings.Repeat("a", 1000), strings.Repeat(" ", 20)}
	for b := range 256 {
		if b < 33 || b > 126 {
			none = append(none, string([]byte{byte(b)}), string([]byte{'a', byte(b)}), string([]byte{byte(b), 'a'}), string([]byte{'a', byte(b), 'a'}))
		}
	}
	return none
}

func quotas() []int { return []int{0, 1, 2, 127, 128, api.MaxBlocks - 1, api.MaxBlocks} }

func noQuotas() []int {
	return []int{-1, -2, math.MinInt, math.MinInt32, api.MaxBlocks + 1, 1 << 21, 1 << 32, 1<<32 + 5, math.MaxInt32, math.MaxInt}
}

func noNumbers() []int {
	return []int{-1, -2, math.MinInt, math.MinInt32, api.MaxBlocks, api.MaxBlocks + 1, 1 << 32, 1<<32 + 1, math.MaxInt32, math.MaxInt}
}

// some gives volumes of all kinds.
func some() *plain {
	p := &plain{}
	p.create("empty", 0)
	p.create("a", 3)
	p.put("a", 0, finger(1))
	p.put("a", 300, finger(2))
	p.put("a", api.MaxBlocks-1, api.Digest{})
	p.copy("a", "snap", 3, true)
	p.put("a", 0, finger(3))
	p.create(strings.Repeat("z", 20), api.MaxBlocks)
	p.put(strings.Repeat("z", 20), 127, finger(1))
	p.put(strings.Repeat("z", 20), 128, finger(1))
	p.copy("empty", "none", 100, true)
	return p
}

// put holds a Put to an answer.
func put(t *testing.T, s *volume.Set, name string, number int, f, want api.Digest, wantThere bool, wantErr api.Errno) {
	t.Helper()
	if was, there, err := s.Put(name, number, f); was != want || there != wantThere || err != wantErr {
		t.Fatalf("Put of %q, %d: %x, %v, %v, not %x, %v, %v", name, number, was, there, err, want, wantThere, wantErr)
	}
}

// drop holds a Drop to an answer.
func drop(t *testing.T, s *volume.Set, name string, number int, want api.Digest, wantThere bool, wantErr api.Errno) {
	t.Helper()
	if was, there, err := s.Drop(name, number); was != want || there != wantThere || err != wantErr {
		t.Fatalf("Drop of %q, %d: %x, %v, %v, not %x, %v, %v", name, number, was, there, err, want, wantThere, wantErr)
	}
}

// P12.1: without volumes there is nothing to tell.
func TestNew(t *testing.T) {
	s := volume.New()
	holds(t, s, &plain{}, "a")
	if len(s.All()) != 0 || !bytes.Equal(s.Encode(), []byte{0}) || s.Trie().Root() != trie.New().Root() {
		t.Errorf("%v, %v", s.All(), s.Encode())
	}
	for _, name := range []string{"a", "", "a b"} {
		if err := s.Delete(name); err != api.ErrNone {
			t.Errorf("Delete of none: %v", err)
		}
		put(t, s, name, 0, finger(1), api.Digest{}, false, api.ErrNone)
		drop(t, s, name, 0, api.Digest{}, false, api.ErrNone)
	}
	holds(t, s, &plain{})
	if s == volume.New() || s == s.Twin() {
		t.Error("two sets are one")
	}
}

// P12.2: the chapter's example.
func TestExample(t *testing.T) {
	s := volume.New()
	if err := s.Create("a", 1); err != api.OK {
		t.Fatal(err)
	}
	put(t, s, "a", 5, finger(1), api.Digest{}, false, api.OK)
	put(t, s, "a", 6, finger(1), api.Digest{}, false, api.ErrQuota)
	holds(t, s, &plain{[]api.Volume{{Name: "a", Quota: 1, Cells: []api.Cell{{Number: 5, Finger: finger(1)}}}}})
}

// P12.1: each name and quota that may be gives a volume without blocks; once there is such a volume there isn't another one.
func TestCreate(t *testing.T) {
	s, p := volume.New(), &plain{}
	for i, name := range names() {
		quota := quotas()[i%len(quotas())]
		if err := s.Create(name, quota); err != api.OK || p.create(name, quota) != api.OK {
			t.Fatalf("Create of %q, %d: %v", name, quota, err)
		}
		holds(t, s, p)
		for _, quota := range quotas() {
			if err := s.Create(name, quota); err != api.ErrThere {
				t.Fatalf("Create of %q, %d once more: %v", name, quota, err)
			}
		}
	}
	for _, quota := range quotas() {
		s := volume.New()
		if err := s.Create("a", quota); err != api.OK || s.All()[0].Quota != quota {
			t.Fatalf("quota %d: %v", quota, err)
		}
	}
	holds(t, s, p)
}

// P12.1: no other name and quota may be, whether there is such a volume or not, and then nothing changes.
func TestMayNotBe(t *testing.T) {
	p := some()
	s := laid(t, p)
	refused := func(name string, quota int) {
		t.Helper()
		if err := s.Create(name, quota); err != api.ErrArg {
			t.Fatalf("Create of %q, %d: %v", name, quota, err)
		}
		for _, from := range []string{"a", "empty", "snap", "missing", "", "a b", name} {
			for _, frozen := range []bool{false, true} {
				if err := s.Copy(from, name, quota, frozen); err != api.ErrArg {
					t.Fatalf("Copy of %q as %q, %d: %v", from, name, quota, err)
				}
			}
		}
	}
	for _, name := range noNames() {
		refused(name, 5)
	}
	for _, quota := range noQuotas() {
		refused("new", quota)
		refused("a", quota)
		refused("", quota)
	}
	holds(t, s, p, "new")
	for _, name := range noNames() {
		if err := s.Delete(name); err != api.ErrNone {
			t.Fatalf("Delete of %q: %v", name, err)
		}
		if err := s.Copy(name, "new", 5, false); err != api.ErrNone {
			t.Fatalf("Copy of %q: %v", name, err)
		}
		put(t, s, name, 0, finger(1), api.Digest{}, false, api.ErrNone)
		drop(t, s, name, 0, api.Digest{}, false, api.ErrNone)
		gets(t, s, p, name, 0)
	}
	holds(t, s, p, "new")
}

// P12.1: of several errors of Copy the one that is named first is answered, and nothing changes.
func TestCopyErrors(t *testing.T) {
	p := some()
	s := laid(t, p)
	for _, c := range []struct {
		name, other string
		quota       int
		want        api.Errno
	}{
		{"missing", "a b", -1, api.ErrArg},
		{"missing", "a", -1, api.ErrArg},
		{"a", "snap", api.MaxBlocks + 1, api.ErrArg},
		{"a", "", 0, api.ErrArg},
		{"missing", "a", 0, api.ErrNone},
		{"missing", "new", 9, api.ErrNone},
		{"missing", "missing", 9, api.ErrNone},
		{"a b", "a", 9, api.ErrNone},
		{"A", "new", 9, api.ErrNone},
		{"a", "snap", 0, api.ErrThere},
		{"a", "a", 0, api.ErrThere},
		{"a", "a", 3, api.ErrThere},
		{"snap", "empty", 9, api.ErrThere},
		{"a", "new", 0, api.ErrQuota},
		{"a", "new", 2, api.ErrQuota},
		{"snap", "new", 2, api.ErrQuota},
	} {
		for _, frozen := range []bool{false, true} {
			if err := s.Copy(c.name, c.other, c.quota, frozen); err != c.want {
				t.Errorf("Copy of %q as %q, %d, %v: %v, not %v", c.name, c.other, c.quota, frozen, err, c.want)
			}
		}
	}
	holds(t, s, p, "new", "missing", "A")
}

// P12.1: a copy has the same blocks, and its own quota, frozen or not, whatever it is a copy of; then each goes its own way.
func TestCopy(t *testing.T) {
	for _, name := range []string{"a", "snap", "empty", "none"} {
		for _, frozen := range []bool{false, true} {
			for _, quota := range []int{3, 4, api.MaxBlocks} {
				p := some()
				s := laid(t, p)
				if err := s.Copy(name, "new", quota, frozen); err != api.OK || p.copy(name, "new", quota, frozen) != api.OK {
					t.Fatalf("Copy of %q: %v", name, err)
				}
				holds(t, s, p)
				for _, changed := range []string{name, "new"} {
					was, there, err := p.put(changed, 0, finger(50))
					put(t, s, changed, 0, finger(50), was, there, err)
					was, there, err = p.drop(changed, 300)
					drop(t, s, changed, 300, was, there, err)
					holds(t, s, p)
				}
				if err := s.Delete(name); err != p.delete(name) {
					t.Fatalf("Delete of %q: %v", name, err)
				}
				holds(t, s, p, name)
			}
		}
	}
	s := volume.New()
	s.Create("no", 7)
	if err := s.Copy("no", "blocks", 0, true); err != api.OK {
		t.Errorf("Copy of no blocks with quota 0: %v", err)
	}
}

// P12.1: what is deleted is gone, also if it is frozen; it can be made anew, without blocks.
func TestDelete(t *testing.T) {
	for i := range some().rows {
		p := some()
		s := laid(t, p)
		name := p.rows[i].Name
		if err := s.Delete(name); err != api.OK || p.delete(name) != api.OK {
			t.Fatalf("Delete of %q: %v", name, err)
		}
		holds(t, s, p, name)
		if err := s.Delete(name); err != api.ErrNone {
			t.Fatalf("Delete of %q once more: %v", name, err)
		}
		put(t, s, name, 0, finger(1), api.Digest{}, false, api.ErrNone)
		if err := s.Copy(name, "new", 9, false); err != api.ErrNone {
			t.Fatalf("Copy of what is gone: %v", err)
		}
		if err := s.Create(name, 1); err != api.OK || p.create(name, 1) != api.OK {
			t.Fatalf("Create of %q anew: %v", name, err)
		}
		put(t, s, name, 0, finger(9), api.Digest{}, false, api.OK)
		p.put(name, 0, finger(9))
		holds(t, s, p, "new")
	}
}

// P12.2: Put and Drop answer what was there ahead of them; the zero fingerprint is one, too.
func TestPutAndDrop(t *testing.T) {
	s := volume.New()
	s.Create("a", 4)
	s.Create("b", 4)
	for _, number := range []int{0, 1, 127, 128, api.MaxBlocks - 1} {
		for _, f := range []api.Digest{{}, at(0, 1), at(31, 255), finger(1)} {
			put(t, s, "a", number, f, api.Digest{}, false, api.OK)
			put(t, s, "a", number, f, f, true, api.OK)
			put(t, s, "a", number, finger(2), f, true, api.OK)
			put(t, s, "a", number, f, finger(2), true, api.OK)
			holds(t, s, &plain{[]api.Volume{{Name: "b", Quota: 4}, {Name: "a", Quota: 4, Cells: []api.Cell{{Number: number, Finger: f}}}}})
			drop(t, s, "b", number, api.Digest{}, false, api.OK)
			drop(t, s, "a", number, f, true, api.OK)
			drop(t, s, "a", number, api.Digest{}, false, api.OK)
			holds(t, s, &plain{[]api.Volume{{Name: "b", Quota: 4}, {Name: "a", Quota: 4}}})
		}
	}
}

// P12.2: there are at most as many blocks as the quota; one that has a fingerprint may have another one all the same.
func TestQuota(t *testing.T) {
	for quota := range 5 {
		s, p := volume.New(), &plain{}
		s.Create("a", quota)
		p.create("a", quota)
		for i := range quota {
			put(t, s, "a", 7*i, finger(i), api.Digest{}, false, api.OK)
			p.put("a", 7*i, finger(i))
		}
		for _, number := range []int{1, 7 * quota, api.MaxBlocks - 1} {
			put(t, s, "a", number, finger(9), api.Digest{}, false, api.ErrQuota)
		}
		holds(t, s, p)
		for i := range quota {
			put(t, s, "a", 7*i, finger(10+i), finger(i), true, api.OK)
			drop(t, s, "a", 1, api.Digest{}, false, api.OK)
			put(t, s, "a", 1, finger(9), api.Digest{}, false, api.ErrQuota)
			drop(t, s, "a", 7*i, finger(10+i), true, api.OK)
			put(t, s, "a", 1, finger(9), api.Digest{}, false, api.OK)
			drop(t, s, "a", 1, finger(9), true, api.OK)
			put(t, s, "a", 7*i, finger(i), api.Digest{}, false, api.OK)
		}
		holds(t, s, p)
	}
}

// P12.2: there are numbers from 0 to MaxBlocks - 1.
func TestNumbers(t *testing.T) {
	p := some()
	s := laid(t, p)
	for _, number := range noNumbers() {
		for _, v := range p.rows {
			put(t, s, v.Name, number, finger(9), api.Digest{}, false, api.ErrRange)
			drop(t, s, v.Name, number, api.Digest{}, false, api.ErrRange)
			gets(t, s, p, v.Name, number)
		}
		put(t, s, "missing", number, finger(9), api.Digest{}, false, api.ErrNone)
		drop(t, s, "missing", number, api.Digest{}, false, api.ErrNone)
		gets(t, s, p, "missing", number)
	}
	holds(t, s, p, "missing")
}

// P12.2: what is frozen stays as it is, also a full one, and what is there can be asked for.
func TestFrozen(t *testing.T) {
	p := some()
	s := laid(t, p)
	for _, name := range []string{"snap", "none"} {
		for _, number := range []int{0, 1, 300, api.MaxBlocks - 1} {
			put(t, s, name, number, finger(9), api.Digest{}, false, api.ErrFrozen)
			drop(t, s, name, number, api.Digest{}, false, api.ErrFrozen)
			gets(t, s, p, name, number)
		}
	}
	f, there, err := s.Get("snap", 0)
	if f != finger(1) || !there || err != api.OK {
		t.Errorf("Get of a frozen block: %x, %v, %v", f, there, err)
	}
	put(t, s, "snap", -1, finger(9), api.Digest{}, false, api.ErrRange)
	drop(t, s, "snap", api.MaxBlocks, api.Digest{}, false, api.ErrRange)
	holds(t, s, p)
}

// P12.3: volumes rise by their names' bytes, and blocks by their numbers, in whatever order they came.
func TestAllRises(t *testing.T) {
	rising := []string{"!", "!!", "!~", "0", "1", "10", "2", "A", "Z", "ZZ", "a", "a!", "aa", "b", strings.Repeat("b", 19), strings.Repeat("b", 20), "~"}
	numbers := []int{0, 1, 2, 9, 10, 11, 100, 127, 128, 255, 256, 65535, 65536, api.MaxBlocks - 1}
	for seed := range uint64(20) {
		s := volume.New()
		r := rand.New(rand.NewPCG(seed, 3))
		for _, i := range r.Perm(len(rising)) {
			s.Create(rising[i], 20)
			for _, k := range r.Perm(len(numbers)) {
				s.Put(rising[i], numbers[k], finger(k))
			}
		}
		all := s.All()
		if len(all) != len(rising) {
			t.Fatalf("%d volumes", len(all))
		}
		for i, v := range all {
			var got []int
			for k, c := range v.Cells {
				got = append(got, c.Number)
				if c.Finger != finger(k) {
					t.Fatalf("%q: %d: another fingerprint", v.Name, c.Number)
				}
			}
			if v.Name != rising[i] || !slices.Equal(got, numbers) {
				t.Fatalf("%q: %v", v.Name, got)
			}
		}
	}
}

// knownKey is how the digest of the bytes 7, 1, 97, 1, 0 begins.
const knownKey = "4383e7ff"

// P12.3: keys of any names and numbers: known ones, and no two are one.
func TestKey(t *testing.T) {
	for _, c := range []struct {
		name   string
		number int
		bytes  []byte
	}{
		{"a", 0, []byte{7, 1, 'a', 1, 0}},
		{"a", 127, []byte{7, 1, 'a', 1, 127}},
		{"a", 300, []byte{7, 1, 'a', 2, 172, 2}},
		{"", 1, []byte{7, 0, 1, 1}},
		{"a b\xff", 5, []byte{7, 4, 'a', ' ', 'b', 255, 1, 5}},
		{"a", -1, []byte{7, 1, 'a', 10, 255, 255, 255, 255, 255, 255, 255, 255, 255, 1}},
		{"a", math.MinInt, []byte{7, 1, 'a', 10, 128, 128, 128, 128, 128, 128, 128, 128, 128, 1}},
		{"a", math.MaxInt, []byte{7, 1, 'a', 9, 255, 255, 255, 255, 255, 255, 255, 255, 127}},
	} {
		if got := volume.Key(c.name, c.number); got != sha256.Sum256(c.bytes) {
			t.Errorf("Key of %q, %d: %x", c.name, c.number, got)
		}
	}
	if got := volume.Key("a", 0); hex.EncodeToString(got[:4]) != knownKey {
		t.Errorf("Key of a, 0: %x", got)
	}
	seen := map[api.Digest]bool{}
	for _, name := range append(names(), noNames()...) {
		for _, number := range append(noNumbers(), 0, 1, 2, 127, 128, 300, api.MaxBlocks-1) {
			got := volume.Key(name, number)
			if got != key(name, number) {
				t.Fatalf("Key of %q, %d: %x", name, number, got)
			}
			seen[got] = true
		}
	}
	count := map[string]bool{}
	for _, name := range append(names(), noNames()...) {
		count[name] = true
	}
	if len(seen) != len(count)*(len(noNumbers())+7) {
		t.Errorf("%d keys", len(seen))
	}
}

// P12.3: the trie has each block's fingerprint, as 32 bytes, by its key, and nothing else.
func TestTrie(t *testing.T) {
	p := some()
	s := laid(t, p)
	x := s.Trie()
	blocks := 0
	for _, v := range p.rows {
		for _, c := range v.Cells {
			blocks++
			if value, there := x.Get(key(v.Name, c.Number)); !there || !bytes.Equal(value, c.Finger[:]) {
				t.Errorf("%q, %d: %x, %v", v.Name, c.Number, value, there)
			}
		}
	}
	if len(x.Keys()) != blocks {
		t.Errorf("%d keys, not %d", len(x.Keys()), blocks)
	}
	if _, there := x.Get(key("a", 1)); there {
		t.Error("a block that isn't there is in the trie")
	}
	x.Put(key("a", 1), nil)
	x.Drop(key("a", 0))
	x.Put(key("a", 300), []byte("other"))
	holds(t, s, p)
	was := s.Trie()
	root := was.Root()
	s.Put("a", 300, finger(77))
	p.put("a", 300, finger(77))
	if was.Root() != root || s.Trie().Root() == root {
		t.Error("a trie that was told goes on with its volumes")
	}
	holds(t, s, p)
}

// P12.3: the trie of one block by hand: its root is the digest of a leaf.
func TestTrieByHand(t *testing.T) {
	s := volume.New()
	s.Create("a", 1)
	f := at(3, 200)
	s.Put("a", 0, f)
	k := sha256.Sum256([]byte{7, 1, 'a', 1, 0})
	leaf := []byte{0, 64}
	for _, b := range k {
		leaf = append(leaf, b>>4, b&15)
	}
	leaf = append(append(leaf, 32), f[:]...)
	if got, want := s.Trie().Root(), sha256.Sum256(slices.Concat([]byte{4, byte(len(leaf))}, leaf)); got != want {
		t.Errorf("root %x, not %x", got, want)
	}
}

// P12.3: which volumes are frozen, and their quotas, and that there are some without blocks, is nothing to the trie.
func TestTrieIsOfBlocksAlone(t *testing.T) {
	p := some()
	root := laid(t, p).Trie().Root()
	for i := range p.rows {
		v := &p.rows[i]
		v.Frozen, v.Quota = !v.Frozen, len(v.Cells)
		if laid(t, p).Trie().Root() != root {
			t.Errorf("%q is frozen or not, with another quota: another root", v.Name)
		}
	}
	p.delete("empty")
	p.create("other", 7)
	if laid(t, p).Trie().Root() != root {
		t.Error("a volume without blocks is in the trie")
	}
	p.delete("snap")
	if laid(t, p).Trie().Root() == root {
		t.Error("a snapshot's blocks aren't in the trie")
	}
}

// P12.3: a twin is the same, and from then on each goes its own way.
func TestTwin(t *testing.T) {
	p := some()
	s := laid(t, p)
	twin, q := s.Twin(), p.twin()
	holds(t, twin, q, "missing")
	third, r := twin.Twin(), q.twin()

	s.Put("a", 0, finger(60))
	p.put("a", 0, finger(60))
	s.Delete("snap")
	p.delete("snap")
	twin.Drop("a", 300)
	q.drop("a", 300)
	twin.Create("new", 8)
	q.create("new", 8)
	twin.Put("new", 8, finger(61))
	q.put("new", 8, finger(61))
	third.Copy("a", "new", 9, true)
	r.copy("a", "new", 9, true)
	third.Put("a", 300, finger(62))
	r.put("a", 300, finger(62))
	put(t, twin, "snap", 0, finger(9), api.Digest{}, false, api.ErrFrozen)

	for i, of := range []*plain{p, q, r} {
		holds(t, []*volume.Set{s, twin, third}[i], of, "new", "snap")
	}
	empty := volume.New().Twin()
	if empty.Create("a", 1) != api.OK || empty.Twin().Twin().Create("b", 1) != api.OK {
		t.Error("a twin of none has volumes")
	}
	put(t, empty.Twin(), "a", 0, finger(1), api.Digest{}, false, api.OK)
	put(t, empty, "a", 0, finger(1), api.Digest{}, false, api.OK)
}

// Rule 4: what is answered is new memory, and what is handed to Decode isn't changed or kept.
func TestSharesNothing(t *testing.T) {
	p := some()
	s := laid(t, p)
	first, second := s.All(), s.All()
	for i := range first {
		clear(first[i].Cells)
		_ = append(first[i].Cells, api.Cell{Number: 9})
		for k := range first {
			if k > i && !slices.Equal(first[k].Cells, p.all()[k].Cells) {
				t.Error("two lists of one answer share blocks")
			}
		}
	}
	clear(first)
	_ = append(first[:0], api.Volume{Quota: 9})
	if !same(second, p.all()) {
		t.Error("two answers of All share volumes")
	}
	b, c := s.Encode(), s.Encode()
	clear(b)
	if !bytes.Equal(c, encoded(p.all())) {
		t.Error("two answers of Encode share bytes")
	}
	holds(t, s, p)

	was := slices.Clone(c)
	other, err := volume.Decode(c)
	if err != api.OK || !bytes.Equal(c, was) {
		t.Fatalf("Decode: %v, or it changes what is handed in", err)
	}
	clear(c)
	holds(t, other, p)
	other.Delete("a")
	other.Create("new", 1)
	holds(t, s, p, "new")
}
