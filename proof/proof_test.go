package proof_test

import (
	"bytes"
	"crypto/sha256"
	"encoding/binary"
	"encoding/hex"
	"math"
	"math/rand/v2"
	"slices"
	"strconv"
	"strings"
	"sync"
	"testing"

	"sporran/api"
	"sporran/proof"
	"sporran/trie"
)

var (
	noughts = strings.Repeat("0", 64)
	fs      = strings.Repeat("f", 64)
	other   = sum("other") // the digest of something else
)

// filled gives a key that begins so, with noughts behind.
func filled(beginning string) string { return beginning + noughts[len(beginning):] }

// but gives the key of noughts, but for one nibble.
func but(place int, nibble string) string { return noughts[:place] + nibble + noughts[place+1:] }

// P9.1: the chapter's example; without nodes any other root is none that they show, also that of a key with no value.
func TestNoNodes(t *testing.T) {
	none, _ := hex.DecodeString("e77b9a9ae9e30b0dbdb6f510a264ef9de781501d7b6b92ae89eb059c5ab743db")
	for _, nodes := range [][][]byte{nil, {}} {
		for _, key := range []string{noughts, fs, hex.EncodeToString(none)} {
			if value, there, err := proof.Check(api.Digest(none), at(key), nodes); len(value) > 0 || there || err != api.OK {
				t.Errorf("%s: %v, %v, %v", key, value, there, err)
			}
			for _, root := range []api.Digest{{}, tagged(4), tagged(4, ""), tagged(5, ""), tagged(4, leaf(noughts, "")), at(fs), at(key)} {
				if root == api.Digest(none) {
					continue
				}
				if value, there, err := proof.Check(root, at(key), nodes); len(value) > 0 || there || err != api.ErrForm {
					t.Errorf("%s under %x: %v, %v, %v", key, root, value, there, err)
				}
			}
		}
	}
}

// P9.1: nodes under the root of no keys show nothing.
func TestNodesUnderNone(t *testing.T) {
	for _, nodes := range [][]string{{""}, {leaf(noughts, "")}, {"\x00"}, {"\x05"}, {"", ""}} {
		if s := check(t, tagged(5), noughts, nodes...); s.ok {
			t.Errorf("%q: %v", nodes, s)
		}
	}
}

// P9.1: roots that are known.
func TestKnown(t *testing.T) {
	for _, c := range []struct {
		root, key string
		want      shown
		nodes     []string
	}{
		{"8366a1b0663ab6adad6c30ff479264282daf4d5a8948576a1fb954c80a80bc75", noughts, shown{"", true, true}, []string{leaf(noughts, "")}},
		{"928478413fbed0d23294734c58ea1ac6cd6115ce9715ea4a97d29593c6dce49e", noughts, shown{"abc", true, true}, []string{leaf(noughts, "abc")}},
		{"928478413fbed0d23294734c58ea1ac6cd6115ce9715ea4a97d29593c6dce49e", fs, shown{"", false, true}, []string{leaf(noughts, "abc")}},
		{"928478413fbed0d23294734c58ea1ac6cd6115ce9715ea4a97d29593c6dce49e", noughts, shown{}, []string{leaf(noughts, "abd")}},
		{"376ebfdc6836552ffce629ab9ef5585290cf8c93938b37cd888fe5b88890a3b2", fs, shown{"2", true, true},
			[]string{branch("", "0f", sum(leaf(noughts[1:], "1")), sum(leaf(fs[1:], "2"))), leaf(fs[1:], "2")}},
		{"0efa97f9027a1913deb618caf1dc06098a94313835f0868aca8ae402e7402375", noughts, shown{"1", true, true},
			[]string{branch(noughts[1:], "01", sum(leaf("", "1")), sum(leaf("", "2"))), leaf("", "1")}},
	} {
		if got := check(t, at(c.root), c.key, c.nodes...); got != c.want {
			t.Errorf("%s of %s: %v, not %v", c.root, c.key, got, c.want)
		}
	}
}

// P9.1: a leaf as the root shows its own key, and of each other key that it isn't there.
func TestLeaf(t *testing.T) {
	for _, value := range []string{"", "v", "\x00", strings.Repeat("a", 127), strings.Repeat("b", 128), strings.Repeat("c", 1<<17)} {
		for _, key := range []string{noughts, fs, filled("0123456789abcdef")} {
			only := leaf(key, value)
			has(t, value, key, only)
			for i := range 64 {
				n := "7"
				if key[i:i+1] == n {
					n = "8"
				}
				hasNot(t, key[:i]+n+key[i+1:], only)
			}
		}
	}
}

// P9.1: what is no leaf in the root's place.
func TestLeafWrong(t *testing.T) {
	rest := "\x40" + strings.Repeat("\x00", 64)
	has(t, "v", noughts, "\x00"+rest+"\x01v") // this is one
	for _, b := range []string{
		"", "\x00", "\x01", "\x00\x40", "\x00" + rest,
		"\x00" + rest + "\x01", "\x00" + rest + "\x02v", // too few bytes
		"\x00" + rest + "\x01vv", "\x00" + rest + "\x00v", "\x00" + rest + "\x01v\x00", "\x00" + rest + "\x00\x00", // something behind
		"\x02" + rest + "\x01v", "\x01" + rest + "\x01v", "\x7f" + rest + "\x01v", "\xff\xff\xff\xff\xff\xff\xff\xff\xff\x01" + rest + "\x01v", // no kind
		"\x80\x00" + rest + "\x01v", "\x80\x02" + rest + "\x01v", // a number of more groups than it must have; a great one
		"\x00\xc0\x00" + rest[1:] + "\x01v", "\x00" + rest + "\x81\x00v",
		"\x00" + rest + "\xff\xff\xff\xff\xff\xff\xff\xff\xff\x01v", "\x00" + rest + "\xff\xff\xff\xff\xff\xff\xff\xff\x7fv", // no count
		"\x00\xff\xff\xff\xff\xff\xff\xff\xff\xff\x01" + rest + "\x01v",
		rest + "\x01v", "\x00\x00" + rest + "\x01v",
	} {
		wrong(t, noughts, b)
	}
	for _, n := range []int{0, 1, 2, 32, 62, 63, 65, 66, 127, 128, 192} { // too few nibbles, or too many
		wrong(t, noughts, leaf(strings.Repeat("0", n), "v"))
	}
	for i := range 64 { // no nibble, whether the key is another one there or not
		for _, n := range []string{"\x10", "\x11", "\x80", "\xf0", "\xff"} {
			b := "\x00\x40" + strings.Repeat("\x00", i) + n + strings.Repeat("\x00", 63-i) + "\x01v"
			wrong(t, noughts, b)
			wrong(t, but(0, "1"), b)
		}
	}
}

// P9.1: a leaf behind branches has as many nibbles as are left; whatever they are, and however many branches there are.
func TestLeafBehind(t *testing.T) {
	for begun := range 64 {
		for _, key := range []string{noughts, fs, filled("0123456789abcdef")} {
			for more := -1; more <= 1; more++ {
				left := 63 - begun + more
				if left < 0 {
					continue
				}
				rest := (key + "0")[begun+1 : begun+1+left]
				below := leaf(rest, "v")
				next, digests := key[begun:begun+1]+"f", []string{sum(below), other}
				if key[begun] == 'f' {
					next, digests = "0f", []string{other, sum(below)}
				}
				nodes := []string{branch(key[:begun], next, digests...), below}
				if more == 0 {
					has(t, "v", key, nodes...)
				} else {
					wrong(t, key, nodes...)
				}
			}
		}
	}
}

// P9.1: a branch's beginning has fewer nibbles than are left; else it is no branch there, though the key begins otherwise.
func TestBranchBeginning(t *testing.T) {
	two := []string{sum(leaf("", "v")), other}
	has(t, "v", noughts, branch(noughts[1:], "0f", two...), leaf("", "v"))
	hasNot(t, but(63, "1"), branch(noughts[1:], "0f", two...))
	hasNot(t, fs, branch(noughts[1:], "0f", two...))
	for _, n := range []int{64, 65, 127, 128, 200} {
		for _, key := range []string{noughts, fs} {
			wrong(t, key, branch(strings.Repeat("0", n), "0f", two...))
			wrong(t, key, branch(strings.Repeat("0", n), "0f", two...), leaf("", "v"))
		}
	}
	for begun := range 64 { // behind another branch
		left := 63 - begun
		for _, n := range []int{left - 1, left, left + 1} {
			if n < 0 {
				continue
			}
			below := branch(strings.Repeat("0", n), "1f", other, other)
			nodes := []string{branch(noughts[:begun], "0f", sum(below), other), below}
			if n < left {
				hasNot(t, noughts, nodes...)
				hasNot(t, noughts[:63]+"2", nodes...)
			} else {
				wrong(t, noughts, nodes...)
				wrong(t, noughts[:63]+"1", nodes...)
			}
		}
	}
	for i := range 8 { // no nibble
		for _, n := range []string{"\x10", "\x12", "\x80", "\xff"} {
			b := strings.Repeat("\x00", i) + n + strings.Repeat("\x00", 7-i)
			for _, key := range []string{noughts, fs, but(0, "1")} {
				wrong(t, key, branchOf(b, "0f", other, other))
			}
		}
	}
}

// P9.1: a branch has two nodes or more, for nibbles that there are, and nothing behind.
func TestBranchWrong(t *testing.T) {
	last := sum(leaf(noughts[1:], "v"))
	for n, next := range []string{"", "0", "01", "012", "0123456789abcde", "0123456789abcdef"} {
		nodes := []string{branch("", next, strings.Repeat(last, len(next))), leaf(noughts[1:], "v")}
		if n < 2 {
			wrong(t, noughts, nodes...)
			wrong(t, fs, nodes[0])
			wrong(t, noughts, nodes[0])
			continue
		}
		has(t, "v", noughts, nodes...)
		for _, digests := range []string{ // too few bytes, or something behind
			"", other, strings.Repeat(last, len(next)-1), strings.Repeat(last, len(next)+1),
			strings.Repeat(last, len(next))[1:], strings.Repeat(last, len(next)) + "\x00",
		} {
			if digests != strings.Repeat(last, len(next)) {
				wrong(t, noughts, branch("", next, digests), nodes[1])
				wrong(t, noughts, branch("", next, digests))
			}
		}
	}
	for _, there := range []uint64{1 << 16, 1<<16 + 1, 1<<16 + 3, 1<<17 - 1, 1 << 32, 3 << 62, math.MaxUint64} {
		for n := range 18 {
			b := binary.AppendUvarint([]byte{1, 0}, there)
			wrong(t, noughts, string(b)+strings.Repeat(last, n))
			wrong(t, noughts, string(b)+strings.Repeat(last, n), leaf(noughts[1:], "v"))
		}
	}
	for _, b := range []string{"\x01", "\x01\x00", "\x01\x01\x00", "\x01\x00\x03", "\x01\x00\x83\x00" + last + last, "\x01\x80\x00\x03" + last + last, "\x81\x00\x00\x03" + last + last, "\x00\x00\x03" + last + last, "\x02\x00\x03" + last + last} {
		wrong(t, noughts, b)
		wrong(t, noughts, b, leaf(noughts[1:], "v"))
	}
}

// P9.1: of each nibble it is the digest in its place that is wanted next.
func TestBranchDigests(t *testing.T) {
	const all = "0123456789abcdef"
	for _, next := range []string{"01", "0f", "ef", "8a", "024", "13579", all[1:], all[:15], all} {
		var leaves, digests []string
		for _, n := range next {
			leaves = append(leaves, leaf(noughts[3:], string(n)))
			digests = append(digests, sum(leaves[len(leaves)-1]))
		}
		top := branch("12", next, digests...)
		for _, n := range all {
			key := filled("12" + string(n))
			place := strings.IndexRune(next, n)
			if place < 0 {
				hasNot(t, key, top)
			} else {
				has(t, string(n), key, top, leaves[place])
				hasNot(t, key[:63]+"1", top, leaves[place])
			}
			for i, l := range leaves {
				if i != place {
					wrong(t, key, top, l)
				}
			}
		}
	}
}

// P9.1: the way ends with the last node: there must be a next one where it goes on, and none where it ends.
func TestWayEnds(t *testing.T) {
	bottom := leaf(noughts[3:], "v")
	low := branch("0", "07", sum(bottom), other)
	top := branch("", "03", sum(low), other)
	has(t, "v", noughts, top, low, bottom)
	wrong(t, noughts, top, low)
	wrong(t, noughts, top)
	wrong(t, noughts, top, bottom)
	wrong(t, noughts, low, bottom)
	wrong(t, noughts, top, low, low, bottom)
	wrong(t, noughts, bottom, low, top)
	for _, more := range []string{"", bottom, low, top, leaf("", ""), leaf(noughts, "v")} {
		wrong(t, noughts, top, low, bottom, more)
		wrong(t, noughts[:63]+"1", top, low, bottom, more) // another key's leaf
		wrong(t, filled("1"), top, more)                   // no node for the nibble
		wrong(t, filled("01"), top, low, more)             // not its beginning
		wrong(t, filled("003"), top, low, more)
	}
	hasNot(t, noughts[:63]+"1", top, low, bottom)
	hasNot(t, filled("1"), top)
	hasNot(t, filled("01"), top, low)
	hasNot(t, filled("003"), top, low)
	wrong(t, filled("3"), top)
	wrong(t, filled("3"), top, low)
	wrong(t, filled("007"), top, low)
	wrong(t, filled("007"), top, low, bottom)
	wrong(t, filled("01"), top)
	wrong(t, filled("01"), top, low, bottom)
}

// longWay gives nodes on a way of 64 branches, and the key at its end.
func longWay() (string, []string) {
	nodes := []string{leaf("", "end")}
	for range 64 {
		nodes = append(nodes, branch("", "09", sum(nodes[len(nodes)-1]), other))
	}
	slices.Reverse(nodes)
	return noughts, nodes
}

// P9.1: the longest way there is; behind all nibbles there is a leaf alone.
func TestLongWay(t *testing.T) {
	key, nodes := longWay()
	has(t, "end", key, nodes...)
	for i := range nodes[1:] {
		wrong(t, key, nodes[:i+1]...)
		wrong(t, key, slices.Concat(nodes[:i], nodes[i+1:])...)
		hasNot(t, but(i, "1"), nodes[:i+1]...)
		wrong(t, but(i, "1"), nodes...)
		wrong(t, but(i, "9"), nodes...)
	}
	wrong(t, key, slices.Concat(nodes, nodes[64:])...)
	// One branch more than there are nibbles.
	below := branch("", "09", sum(leaf("", "end")), other)
	for range 64 {
		nodes = slices.Insert(nodes, 64, below)
		for i := 63; i >= 0; i-- {
			nodes[i] = branch("", "09", sum(nodes[i+1]), other)
		}
		wrong(t, key, nodes...)
		wrong(t, key, nodes[:65]...)
	}
}

// P9.1: each byte of what is handed in tells: with another one it is wrong, or another key is asked for.
func TestEachByte(t *testing.T) {
	for _, nodes := range [][]string{
		{leaf(noughts, "value")},
		{branch("0", "0f", sum(leaf(noughts[2:], "v")), other), leaf(noughts[2:], "v")},
		{branch("", "0f", sum(branch("00", "01", sum(leaf(noughts[4:], "")), other)), other), branch("00", "01", sum(leaf(noughts[4:], "")), other), leaf(noughts[4:], "")},
	} {
		root := tagged(4, nodes[0])
		was := check(t, root, noughts, nodes...)
		if !was.there {
			t.Fatalf("%q: %v", nodes, was)
		}
		for i := range 8 * len(root) {
			d := root
			d[i/8] ^= 1 << (i % 8)
			if s := check(t, d, noughts, nodes...); s.ok {
				t.Errorf("another root, at %d: %v", i, s)
			}
		}
		for n := range nodes {
			for i := range 8 * len(nodes[n]) {
				b := []byte(nodes[n])
				b[i/8] ^= 1 << (i % 8)
				changed := slices.Clone(nodes)
				changed[n] = string(b)
				if s := check(t, root, noughts, changed...); s.ok {
					t.Errorf("another node %d, at %d: %v", n, i, s)
				}
			}
		}
	}
}

// tries gives tries of many shapes, and keys to ask them for.
func tries() map[*trie.Trie][]string {
	out := map[*trie.Trie][]string{}
	laid := func(keys []string, others ...string) {
		x := trie.New()
		for i, key := range keys {
			x.Put(at(key), []byte(strings.Repeat(strconv.Itoa(i), i%4)))
		}
		out[x] = append(slices.Clone(keys), others...)
	}
	laid(nil, noughts, fs)
	laid([]string{noughts}, fs, but(0, "1"), but(63, "1"))
	laid([]string{noughts, fs}, filled("f"), but(63, "f"), filled("8"))
	laid([]string{noughts, but(63, "1")}, but(63, "2"), but(62, "1"), fs)
	laid([]string{filled("123a"), filled("123b"), filled("1")}, filled("123c"), filled("124a"), filled("101"), filled("12"), filled("2"), noughts)
	chain, beside := []string{noughts}, []string{fs}
	for i := range 64 {
		chain = append(chain, but(i, "1"))
		beside = append(beside, but(i, "2"))
	}
	laid(chain, beside...)
	for _, place := range []int{0, 1, 31, 62, 63} {
		var all []string
		for n := range 16 {
			all = append(all, but(place, strconv.FormatInt(int64(n), 16)))
		}
		laid(all, beside...)
		laid(all[3:9], append(beside, all[9:]...)...)
	}
	var many, near []string
	for i := range 600 {
		digest := sha256.Sum256([]byte(strconv.Itoa(i)))
		key := hex.EncodeToString(digest[:])
		many = append(many, key)
		near = append(near, key[:63]+"7", key[:2]+"0"+key[3:], key[:1]+"e"+key[2:])
	}
	laid(many, near...)
	return out
}

// proves gives what a trie's Prove tells.
func proves(x *trie.Trie, key string) []string {
	var out []string
	for _, node := range x.Prove(at(key)) {
		out = append(out, string(node))
	}
	return out
}

// gets gives what a trie's Get tells.
func gets(x *trie.Trie, key string) shown {
	value, there := x.Get(at(key))
	return shown{string(value), there, true}
}

// P9.2: what Prove tells of any trie and key shows, under its Root, just what Get tells.
func TestProve(t *testing.T) {
	for x, keys := range tries() {
		for _, key := range keys {
			nodes := proves(x, key)
			if got, want := check(t, x.Root(), key, nodes...), gets(x, key); got != want {
				t.Fatalf("%q: Check of %s: %v, not %v", nodes, key, got, want)
			}
		}
	}
}

// P9.2: what Prove tells of one key, whole or in part, shows nothing else of another key than Get tells.
func TestProveOfAnother(t *testing.T) {
	for x, keys := range tries() {
		keys = keys[:min(len(keys), 130)]
		for i, one := range keys {
			nodes := proves(x, one)
			for j, key := range keys {
				if (i+j)%29 > 0 && len(keys) > 20 {
					continue
				}
				for n := range len(nodes) + 1 {
					got := check(t, x.Root(), key, nodes[:n]...)
					if want := gets(x, key); got.ok && got != want {
						t.Fatalf("%q: Check of %s: %v, not %v", nodes[:n], key, got, want)
					}
					if got != plain(x.Root(), key, nodes[:n]...) {
						t.Fatalf("%q: Check of %s: %v", nodes[:n], key, got)
					}
				}
			}
		}
	}
}

// P9.2: what another trie tells shows nothing under this one's root, but where their nodes are the same.
func TestProveOfAnotherTrie(t *testing.T) {
	x := trie.New()
	for i := range 40 {
		x.Put(sha256.Sum256([]byte(strconv.Itoa(i))), []byte{byte(i)})
	}
	for i := range 40 {
		key := sha256.Sum256([]byte(strconv.Itoa(i)))
		digits := hex.EncodeToString(key[:])
		dropped, changed, more := x.Twin(), x.Twin(), x.Twin()
		dropped.Drop(key)
		changed.Put(key, []byte("changed"))
		more.Put(sha256.Sum256([]byte("more"+strconv.Itoa(i))), nil)
		for _, y := range []*trie.Trie{dropped, changed, more} {
			if s := check(t, x.Root(), digits, proves(y, digits)...); s.ok {
				t.Errorf("%s: %v", digits, s)
			}
			if s := check(t, y.Root(), digits, proves(x, digits)...); s.ok {
				t.Errorf("%s: %v", digits, s)
			}
			if got, want := check(t, y.Root(), digits, proves(y, digits)...), gets(y, digits); got != want {
				t.Errorf("%s: %v, not %v", digits, got, want)
			}
		}
	}
}

// maker makes ways that are almost right: each node's digest stands in the one ahead, whatever the node is.
type maker struct{ *rand.Rand }

// other gives digits of which one may have changed.
func (r maker) other(digits string) string {
	if digits == "" || r.IntN(8) > 0 {
		return digits
	}
	i := r.IntN(len(digits))
	return digits[:i] + string("0123456789abcdef"[r.IntN(16)]) + digits[i+1:]
}

// spoilt gives bytes of which one may have changed, gone, or come.
func (r maker) spoilt(b string) string {
	i := r.IntN(min(len(b), 12))
	if r.IntN(2) == 0 {
		i = r.IntN(len(b))
	}
	switch r.IntN(60) {
	case 0:
		return b[:i] + string([]byte{byte(r.IntN(256))}) + b[i+1:]
	case 1:
		return b[:i] + b[i+1:]
	case 2:
		return b[:i] + string([]byte{byte(r.IntN(20))}) + b[i:]
	}
	return b
}

// way gives nodes on the way of which so much is left.
func (r maker) way(left string) []string {
	if left == "" || r.IntN(5) == 0 {
		rest := r.other(left)
		return []string{r.spoilt(leaf(rest, strings.Repeat("v", r.IntN(3))))}
	}
	n := r.IntN(len(left))
	if r.IntN(3) > 0 {
		n = r.IntN(min(len(left), 4))
	}
	below := r.way(left[n+1:])
	next, digests := "", []string{}
	for _, c := range "0123456789abcdef" {
		if c == rune(left[n]) && r.IntN(10) > 0 {
			next += string(c)
			digests = append(digests, sum(below[0]))
		} else if c != rune(left[n]) && r.IntN(6) == 0 {
			next += string(c)
			digests = append(digests, other)
		}
	}
	top := r.spoilt(branch(r.other(left[:n]), next, digests...))
	if r.IntN(10) == 0 {
		return []string{top}
	}
	return append([]string{top}, below...)
}

// P9.1: whatever nodes there are, it is as the plain one tells.
func TestAgainstPlain(t *testing.T) {
	counts := map[shown]int{}
	for seed := range uint64(30000) {
		r := maker{rand.New(rand.NewPCG(seed, 9))}
		key := filled("3a0f0012" + strconv.Itoa(r.IntN(1000)))
		nodes := r.way(key)
		key = r.other(key)
		root := tagged(4, nodes[0])
		if i := r.IntN(len(nodes)); r.IntN(20) == 0 {
			nodes = slices.Delete(nodes, i, i+1)
		} else if r.IntN(20) == 0 {
			nodes = slices.Insert(nodes, i+1, nodes[i])
		}
		got, want := check(t, root, key, nodes...), plain(root, key, nodes...)
		if got != want {
			t.Fatalf("seed %d: %q: Check of %s: %v, not %v", seed, nodes, key, got, want)
		}
		got.value = ""
		counts[got]++
	}
	for _, s := range []shown{{"", true, true}, {"", false, true}, {}} {
		if counts[s] < 1000 {
			t.Errorf("%v was met but %d times", s, counts[s])
		}
	}
}

// spoil changes bytes, and those in the room behind them.
func spoil(b []byte) {
	b = b[:cap(b)]
	for i := range b {
		b[i] ^= 0xff
	}
}

// P9.1, rule 4: nodes aren't changed, and what is answered shares no memory with them, nor with another answer.
func TestMemory(t *testing.T) {
	bottom := leaf(noughts[1:], "value")
	top := branch("", "01", sum(bottom), other)
	room := []byte(top + bottom + "behind")
	was := bytes.Clone(room)
	nodes := [][]byte{room[:len(top)], room[len(top) : len(top)+len(bottom)]}
	first, _, _ := proof.Check(tagged(4, top), at(noughts), nodes)
	second, _, err := proof.Check(tagged(4, top), at(noughts), nodes)
	if err != api.OK || !bytes.Equal(room, was) || len(nodes) != 2 {
		t.Fatalf("%v; %q", err, room)
	}
	spoil(first)
	if string(second) != "value" || !bytes.Equal(room, was) {
		t.Errorf("it shares memory: %q, %q", second, room)
	}
	spoil(room)
	if string(second) != "value" {
		t.Errorf("it shares memory: %q", second)
	}
}

// P1: many nodes, great nodes, and those that tell of greater ones end in good time.
func TestMany(t *testing.T) {
	key, nodes := longWay()
	for range 20 {
		has(t, "end", key, nodes...)
	}
	long := make([]string, 200000)
	for i := range long {
		long[i] = nodes[64]
	}
	wrong(t, key, slices.Concat(nodes[:64], long)...)
	wrong(t, key, long...)
	has(t, strings.Repeat("v", 1<<22), noughts, leaf(noughts, strings.Repeat("v", 1<<22)))
	wrong(t, noughts, strings.Repeat("\x00", 1<<20))
	wrong(t, noughts, strings.Repeat("\xff", 1<<20))
	wrong(t, noughts, strings.Repeat("\x01", 1<<20))
}

// P2: what is asked at one time is answered as ever.
func TestAtOneTime(t *testing.T) {
	key, nodes := longWay()
	var rows [][]byte
	for _, n := range nodes {
		rows = append(rows, []byte(n))
	}
	same := make([]bool, 8)
	var all sync.WaitGroup
	for i := range same {
		all.Go(func() {
			value, there, err := proof.Check(tagged(4, nodes[0]), at(key), rows)
			same[i] = string(value) == "end" && there && err == api.OK
		})
	}
	all.Wait()
	if slices.Contains(same, false) {
		t.Error("at one time it gives other answers")
	}
}
