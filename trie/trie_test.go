package trie_test

import (
	"bytes"
	"crypto/sha256"
	"math/rand/v2"
	"slices"
	"strconv"
	"strings"
	"sync"
	"testing"

	"sporran/api"
	"sporran/trie"
)

var (
	noughts = strings.Repeat("0", 64)
	fs      = strings.Repeat("f", 64)
)

// filled gives a key that begins so, with noughts behind.
func filled(beginning string) string { return beginning + noughts[len(beginning):] }

// but gives the key of noughts, but for one nibble.
func but(place int, nibble string) string { return noughts[:place] + nibble + noughts[place+1:] }

// chain gives 65 keys that part from one another at each of the 64 nibbles.
func chain() plain {
	p := plain{noughts: "z"}
	for i := range 64 {
		p[but(i, "1")] = strconv.Itoa(i)
	}
	return p
}

// sixteen gives keys of noughts, but for one nibble, that is each of those that there are.
func sixteen(place int) plain {
	p := plain{}
	for n := range 16 {
		p[but(place, strconv.FormatInt(int64(n), 16))] = string([]byte{byte(n)})
	}
	return p
}

// thousand gives keys that are the digests of numbers.
func thousand() plain {
	p := plain{}
	for i := range 1000 {
		text := strconv.Itoa(i)
		p[digits(sha256.Sum256([]byte(text)))] = text
	}
	return p
}

// P8.1, P8.2: without keys there is nothing to tell.
func TestNew(t *testing.T) {
	x := trie.New()
	holds(t, x, plain{}, noughts, fs)
	for _, key := range []string{noughts, fs} {
		if value, ok := x.Get(at(key)); ok || len(value) > 0 {
			t.Errorf("Get of %s: %v, %v", key, value, ok)
		}
		if x.Drop(at(key)) {
			t.Errorf("Drop of %s: it was there", key)
		}
		if nodes := x.Prove(at(key)); len(nodes) > 0 {
			t.Errorf("Prove of %s: %v", key, nodes)
		}
	}
	holds(t, x.Twin(), plain{}, noughts)
	if x == trie.New() || x == x.Twin() {
		t.Error("two tries are one")
	}
}

// P8.2: roots that are known.
func TestRootKnown(t *testing.T) {
	for i, c := range []struct {
		p    plain
		root string
	}{
		{plain{}, "e77b9a9ae9e30b0dbdb6f510a264ef9de781501d7b6b92ae89eb059c5ab743db"},
		{plain{noughts: ""}, "8366a1b0663ab6adad6c30ff479264282daf4d5a8948576a1fb954c80a80bc75"},
		{plain{noughts: "abc"}, "928478413fbed0d23294734c58ea1ac6cd6115ce9715ea4a97d29593c6dce49e"},
		{plain{fs: strings.Repeat("a", 200)}, "2b46fcc54d2a70ccd9de3107a4de020185c54e5ea39d0e2687856a7f3136ce06"},
		{plain{noughts: "1", fs: "2"}, "376ebfdc6836552ffce629ab9ef5585290cf8c93938b37cd888fe5b88890a3b2"},
		{plain{noughts: "1", but(63, "1"): "2"}, "0efa97f9027a1913deb618caf1dc06098a94313835f0868aca8ae402e7402375"},
		{sixteen(63), "87f0799e7e8611e887dab33aa37685dbe244e0041ca922e20591d6a1051e3ef7"},
		{sixteen(0), "c2d6cfd269aa5173c170d7fb7c71042cc3751c2a011a81273869dc9cf0e4b9d6"},
		{chain(), "ab7583acbe443e74b10cb5effa21385b5653385afbbe8933e11c709203397ef0"},
		{thousand(), "11e7e84de67d3dcdc8dc699ffb7ecba57eb30f70b692ba0ecce07025e0c2bd30"},
	} {
		if got := digits(laid(c.p).Root()); got != c.root || digits(c.p.root()) != c.root {
			t.Errorf("%d: root %s, not %s", i, got, c.root)
		}
	}
}

// P8.2: the chapter's example.
func TestRootExample(t *testing.T) {
	x := trie.New()
	x.Put(api.Digest{}, nil)
	want := tagged(4, "\x00\x40"+strings.Repeat("\x00", 64)+"\x00")
	if got := x.Root(); got != want {
		t.Errorf("root %x, not %x", got, want)
	}
}

// P8.2: the bytes of nodes, said by hand, down to the leaf of a key that is there.
func TestProveByHand(t *testing.T) {
	d := func(b string) string { d := tagged(4, b); return string(d[:]) }
	far := func(n int) string { return strings.Repeat("\x00", n) }
	long := strings.Repeat("v", 300)

	// One key: a leaf with the whole key as its rest.
	one := plain{filled("0f5"): long}
	leaf := "\x00\x40\x00\x0f\x05" + far(61) + "\xac\x02" + long
	told(t, one, filled("0f5"), leaf)

	// Two keys that part at once: no beginning, the bits 10 and 15.
	left, right := "\x00\x3f\x0b"+far(62)+"\x01x", "\x00\x3f"+far(63)+"\x00"
	two := plain{filled("ab"): "x", filled("f"): ""}
	branch := "\x01\x00\x80\x88\x02" + d(left) + d(right)
	told(t, two, filled("ab"), branch, left)
	told(t, two, filled("f"), branch, right)

	// Keys that part at the last nibble: 63 nibbles of beginning, leaves without a rest.
	last := plain{noughts: "a", but(63, "2"): "b"}
	branch = "\x01\x3f" + far(63) + "\x05" + d("\x00\x00\x01a") + d("\x00\x00\x01b")
	told(t, last, noughts, branch, "\x00\x00\x01a")
	told(t, last, but(63, "2"), branch, "\x00\x00\x01b")

	// A branch behind a branch: its beginning is what is behind the nibble that comes next.
	p := plain{filled("123a"): "x", filled("123b"): "y", filled("1"): "z"}
	x, y, z := "\x00\x3c"+far(60)+"\x01x", "\x00\x3c"+far(60)+"\x01y", "\x00\x3e"+far(62)+"\x01z"
	inner := "\x01\x01\x03\x80\x18" + d(x) + d(y)
	outer := "\x01\x01\x01\x05" + d(z) + d(inner)
	told(t, p, filled("123a"), outer, inner, x)
	told(t, p, filled("123b"), outer, inner, y)
	told(t, p, filled("1"), outer, z)

	// Keys that aren't there: where the way ends.
	told(t, p, filled("2"), outer)           // the longest beginning isn't one of the key's
	told(t, p, filled("13"), outer)          // there is no node for the nibble
	told(t, p, filled("124a"), outer, inner) // likewise, further down
	told(t, p, filled("123c"), outer, inner)
	told(t, p, filled("123a")[:63]+"1", outer, inner, x) // another key's leaf
	told(t, p, filled("101"), outer, z)
	told(t, one, noughts, leaf)
	told(t, one, fs, leaf)
	told(t, plain{}, fs)
}

// told asks that these nodes, and no others, are told of a key, and that the first one's digest is the root.
func told(t *testing.T, p plain, key string, want ...string) {
	t.Helper()
	x := laid(p)
	var got []string
	for _, node := range x.Prove(at(key)) {
		got = append(got, string(node))
	}
	if !slices.Equal(got, want) {
		t.Errorf("%v: Prove of %s: %q, not %q", p, key, got, want)
	}
	if len(want) > 0 && x.Root() != tagged(4, want[0]) {
		t.Errorf("%v: another root", p)
	}
	holds(t, x, p, key)
}

// P8.1, P8.2: keys that part at each nibble, all nibbles at one place, many keys: all of them, and neighbours of them.
func TestShapes(t *testing.T) {
	var others []string
	for i := range 64 {
		others = append(others, but(i, "2"), but(i, "f"), fs[:i]+"e"+fs[i+1:])
	}
	holds(t, laid(chain()), chain(), others...)
	for place := range 64 {
		holds(t, laid(sixteen(place)), sixteen(place), others[3*place:3*place+3]...)
	}
	p := thousand()
	var near []string // each of these is another key's neighbour
	for _, key := range p.sorted() {
		near = append(near, key[:63]+"7", key[:2]+"0"+key[3:], key[:1]+"e"+key[2:])
	}
	holds(t, laid(p), p, near...)
}

// P8.1: Put of a key that is there puts another value in the place of the old one; of any length.
func TestPutAgain(t *testing.T) {
	for _, p := range []plain{{}, {but(63, "1"): "a"}, {fs: "b"}, chain(), sixteen(0), sixteen(63)} {
		x := laid(p)
		for _, value := range []string{"", "x", "", strings.Repeat("y", 127), strings.Repeat("z", 128), string(make([]byte, 1<<17)), "x"} {
			p[noughts] = value
			x.Put(at(noughts), []byte(value))
			holds(t, x, p)
		}
	}
}

// P8.1: no value, and one without bytes, are one: the key is there.
func TestPutNothing(t *testing.T) {
	for _, value := range [][]byte{nil, {}} {
		x := trie.New()
		x.Put(at(fs), value)
		holds(t, x, plain{fs: ""}, noughts)
	}
}

// P8.1, P8.2: a key that is dropped was there once, and leaves nothing behind; one that isn't there changes nothing.
func TestDrop(t *testing.T) {
	for _, all := range []plain{{fs: "b"}, {noughts: "a", fs: "b"}, {noughts: "a", but(63, "1"): "b", but(1, "7"): "c"}, chain(), sixteen(0), sixteen(31), sixteen(63)} {
		falling := all.sorted()
		slices.Reverse(falling)
		for _, order := range [][]string{all.sorted(), falling} {
			x, p := laid(all), all.twin()
			for _, key := range order {
				for _, other := range []string{noughts[:62] + "99", fs[:63] + "0", key[:63] + "e", "8" + key[1:]} {
					if _, there := p[other]; !there && x.Drop(at(other)) {
						t.Fatalf("%v: Drop of %s: it was there", p, other)
					}
				}
				holds(t, x, p, key)
				if !x.Drop(at(key)) {
					t.Fatalf("%v: Drop of %s: it wasn't there", p, key)
				}
				delete(p, key)
				holds(t, x, p, key)
				if x.Drop(at(key)) {
					t.Fatalf("%v: Drop of %s once more: it was there", p, key)
				}
			}
			holds(t, x, plain{})
			x.Put(at(fs), []byte("again"))
			holds(t, x, plain{fs: "again"})
		}
	}
}

// P8.2: the root, and the proofs, hang on keys and values alone: not on the order of Puts, not on what was there meanwhile.
func TestOrder(t *testing.T) {
	p := plain{noughts: "a", but(63, "1"): "b", but(62, "1"): "c", filled("00f"): "d", fs: "e"}
	keys := p.sorted()
	orders(keys, func(order []string) {
		for skip := range len(order) + 1 {
			x := trie.New()
			for i, key := range order {
				if i == skip {
					x.Put(at(filled("00fe")), []byte("gone"))
					x.Put(at(filled("8")), nil)
				}
				x.Put(at(key), []byte("old"))
				x.Root()
				x.Put(at(key), []byte(p[key]))
			}
			x.Drop(at(filled("8")))
			x.Drop(at(filled("00fe")))
			holds(t, x, p, filled("00fe"))
		}
	})
}

// orders gives all orders of keys to a function.
func orders(keys []string, each func([]string)) {
	var place func(n int)
	place = func(n int) {
		if n == len(keys) {
			each(keys)
			return
		}
		for i := n; i < len(keys); i++ {
			keys[n], keys[i] = keys[i], keys[n]
			place(n + 1)
			keys[n], keys[i] = keys[i], keys[n]
		}
	}
	place(0)
}

// P8.2: one key or value more, or less, or another one: another root.
func TestRootsDiffer(t *testing.T) {
	seen := map[api.Digest]int{}
	for i, p := range []plain{
		{}, {noughts: ""}, {noughts: "\x00"}, {noughts: "a"}, {fs: ""}, {but(63, "1"): ""}, {but(0, "1"): ""},
		{noughts: "", fs: ""}, {noughts: "a", fs: ""}, {noughts: "", fs: "a"}, {noughts: "", but(63, "1"): ""}, {noughts: "", but(62, "1"): ""},
	} {
		root := laid(p).Root()
		if other, there := seen[root]; there {
			t.Errorf("%d and %d have one root", i, other)
		}
		seen[root] = i
	}
}

// P8.1: a twin is the same, and one of its own: neither sees what the other is told.
func TestTwin(t *testing.T) {
	for _, p := range []plain{{}, {noughts: "a"}, {noughts: "a", fs: "b"}, chain(), sixteen(0), sixteen(63)} {
		for _, swapped := range []bool{false, true} {
			x := laid(p)
			w := x.Twin()
			if swapped {
				x, w = w, x
			}
			q := p.twin()
			for _, key := range append(p.sorted(), filled("0001"), filled("e")) {
				x.Put(at(key), []byte("other"))
				q[key] = "other"
			}
			holds(t, w, p, filled("0001"))
			holds(t, x, q)
			for _, key := range q.sorted() {
				x.Drop(at(key))
			}
			holds(t, w, p, filled("0001"))
			holds(t, x, plain{}, noughts)
			holds(t, w.Twin(), p)
			x.Put(at(fs), nil)
			w.Put(at(filled("7")), []byte("mine"))
			holds(t, x, plain{fs: ""}, filled("7"))
			mine := p.twin()
			mine[filled("7")] = "mine"
			holds(t, w, mine)
		}
	}
}

// spoil changes bytes, and those in the room behind them.
func spoil(b []byte) {
	b = b[:cap(b)]
	for i := range b {
		b[i] ^= 0xff
	}
}

// P8.3: what is handed in isn't changed, and isn't kept.
func TestHandedIn(t *testing.T) {
	x := trie.New()
	room := []byte("abcdef")
	value := room[1:3]
	x.Put(at(noughts), value)
	x.Put(at(fs), value)
	if string(room) != "abcdef" {
		t.Errorf("it is changed: %q", room)
	}
	spoil(room)
	holds(t, x, plain{noughts: "bc", fs: "bc"})
	spoil(room)
	x.Put(at(noughts), value)
	w := x.Twin()
	spoil(value)
	holds(t, x, plain{noughts: "bc", fs: "bc"})
	holds(t, w, plain{noughts: "bc", fs: "bc"})
}

// P8.3: what is answered is new memory, also of what is answered beside it, and of what a twin answers.
func TestAnswered(t *testing.T) {
	for _, p := range []plain{{noughts: "value"}, {noughts: "value", fs: "other"}, chain(), sixteen(63)} {
		x := laid(p)
		w := x.Twin()
		for range 2 {
			for _, one := range []*trie.Trie{x, w} {
				value, _ := one.Get(at(noughts))
				spoil(value)
				keys := one.Keys()
				keys = keys[:cap(keys)]
				for i := range keys {
					keys[i][7] ^= 1
				}
				spoilProof(t, one.Prove(at(noughts)))
				spoilProof(t, one.Prove(at(fs[:63]+"e")))
				holds(t, x, p)
				holds(t, w, p)
			}
		}
	}
}

// spoilProof changes each node, and asks that no other one changes with it.
func spoilProof(t *testing.T, nodes [][]byte) {
	t.Helper()
	for i := range nodes {
		var was [][]byte
		for _, node := range nodes {
			was = append(was, bytes.Clone(node))
		}
		spoil(nodes[i])
		for k := range nodes {
			if k != i && !bytes.Equal(nodes[k], was[k]) {
				t.Fatalf("the nodes %d and %d share memory", i, k)
			}
		}
	}
}

// someKey gives a key of few nibbles, so that keys have long and short beginnings in common.
func someKey(r *rand.Rand) string {
	key := []byte(noughts)
	for range r.IntN(4) {
		place := r.IntN(64)
		if r.IntN(2) == 0 {
			place = []int{0, 1, 2, 61, 62, 63}[r.IntN(6)]
		}
		key[place] = "01f"[r.IntN(3)]
	}
	return string(key)
}

// step does one thing to a trie and to the plain one, and tells whether they answer the same.
func step(r *rand.Rand, x *trie.Trie, p plain) bool {
	key := someKey(r)
	if keys := p.sorted(); len(keys) > 0 && r.IntN(2) == 0 {
		key = keys[r.IntN(len(keys))]
	}
	want, there := p[key]
	switch r.IntN(7) {
	case 0, 1:
		delete(p, key)
		return x.Drop(at(key)) == there
	case 2, 3, 4:
		p[key] = strings.Repeat(string(rune('a'+r.IntN(26))), r.IntN(3)*r.IntN(60))
		x.Put(at(key), []byte(p[key]))
		return true
	case 5:
		got, ok := x.Get(at(key))
		return ok == there && string(got) == want
	default:
		return x.Root() == p.root()
	}
}

// P8.1, P8.2: whatever is called, in whatever order, it is as the plain one tells; and so are the twins that were made meanwhile.
func TestAgainstPlain(t *testing.T) {
	for seed := range uint64(30) {
		r := rand.New(rand.NewPCG(seed, 8))
		x, p := trie.New(), plain{}
		twins := map[*trie.Trie]plain{}
		for i := range 150 {
			if !step(r, x, p) {
				t.Fatalf("seed %d, step %d: %v: another answer", seed, i, p)
			}
			if r.IntN(10) == 0 {
				holds(t, x, p, someKey(r), someKey(r))
			}
			if r.IntN(30) == 0 {
				twins[x.Twin()] = p.twin()
			}
		}
		twins[x] = p
		for w, q := range twins {
			holds(t, w, q, someKey(r))
		}
	}
}

// P2: tries have nothing in common, and twins neither, whatever is asked of them at one time.
func TestTriesAreTheirOwn(t *testing.T) {
	first := laid(chain())
	twins := []*trie.Trie{first}
	for range 7 {
		twins = append(twins, first.Twin())
	}
	same := make([]bool, len(twins))
	var all sync.WaitGroup
	for i, x := range twins {
		all.Go(func() {
			p := chain()
			same[i] = x.Root() == p.root() && slices.EqualFunc(x.Prove(at(noughts)), prove(p.nodes(), noughts), bytes.Equal)
			r := rand.New(rand.NewPCG(uint64(i/2), 1))
			for range 60 {
				same[i] = step(r, x, p) && same[i]
			}
		})
	}
	all.Wait()
	if slices.Contains(same, false) {
		t.Error("tries at one time give other answers")
	}
}

// P1, P2: a trie may be asked at one time by many: each is told the same.
func TestAskedAtOneTime(t *testing.T) {
	p := sixteen(5)
	x := laid(p)
	want := p.root()
	same := make([]bool, 8)
	var all sync.WaitGroup
	for i := range same {
		all.Go(func() {
			value, ok := x.Get(at(noughts))
			same[i] = ok && len(value) == 1 && len(x.Prove(at(noughts))) == 2 && x.Root() == want && x.Twin().Root() == want
		})
	}
	all.Wait()
	if slices.Contains(same, false) {
		t.Error("a trie that is asked at one time gives other answers")
	}
}

// P1: many Puts, each with the root and a proof behind it, and many Drops end in good time.
func TestMany(t *testing.T) {
	x := trie.New()
	p := plain{}
	const many = 3000
	key := func(i int) api.Digest { return sha256.Sum256([]byte(strconv.Itoa(i))) }
	for i := range many {
		x.Put(key(i), []byte(strconv.Itoa(i)))
		x.Root()
		x.Twin().Prove(key(i))
		p[digits(key(i))] = strconv.Itoa(i)
	}
	if got, want := x.Root(), p.root(); got != want {
		t.Errorf("root %x, not %x", got, want)
	}
	for i := range many {
		if !x.Drop(key(i)) || x.Root() == (api.Digest{}) {
			t.Fatalf("Drop %d", i)
		}
	}
	holds(t, x, plain{})
}
