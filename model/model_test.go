package model_test

import (
	"math"
	"math/rand/v2"
	"slices"
	"strings"
	"testing"

	"sporran/api"
	"sporran/model"
)

func create(name string, quota int) api.Op {
	return api.Op{Kind: api.OpCreate, Name: name, Quota: quota}
}

func remove(name string) api.Op { return api.Op{Kind: api.OpDelete, Name: name} }

func write(name string, number int, b api.Block) api.Op {
	return api.Op{Kind: api.OpWrite, Name: name, Number: number, Block: b}
}

func trim(name string, number int) api.Op {
	return api.Op{Kind: api.OpTrim, Name: name, Number: number}
}

func read(name string, number int) api.Op {
	return api.Op{Kind: api.OpRead, Name: name, Number: number}
}

func snapshot(name, other string) api.Op {
	return api.Op{Kind: api.OpSnapshot, Name: name, Other: other}
}

func clone(name, other string, quota int) api.Op {
	return api.Op{Kind: api.OpClone, Name: name, Other: other, Quota: quota}
}

func list() api.Op { return api.Op{Kind: api.OpList} }

// at gives the block of noughts, but for one byte at a place.
func at(place int, b byte) api.Block {
	var block api.Block
	block[place] = b
	return block
}

func block(i int) api.Block { return at(i%48, byte(1+i/48)) }

// a volume may have these names.
func names() []string {
	return []string{"a", "!", "~", "0", "A", "-", ".", "/", "\"", "\\", "aa", "!~", "a/b", strings.Repeat("~", 19), strings.Repeat("!", 20), "VOL#1{x}"}
}

// no volume may have these ones.
func noNames() []string {
	return []string{"", " ", "a b", " a", "a ", "a\x00", "\x00", "a\n", "\x1f", "\x7f", "a\x7f", "\x80", "\xff", "é", "a☃b", strings.Repeat("a", 21), strings.Repeat("a", 20) + " ", strings.Repeat("é", 10), strings.Repeat("a", 1000)}
}

func quotas() []int { return []int{0, 1, 2, 127, 128, api.MaxBlocks - 1, api.MaxBlocks} }

func noQuotas() []int {
	return []int{-1, -2, math.MinInt, math.MinInt32, api.MaxBlocks + 1, 1 << 32, 1<<32 + 5, math.MaxInt32, math.MaxInt}
}

func noNumbers() []int {
	return []int{-1, -2, math.MinInt, math.MinInt32, api.MaxBlocks, api.MaxBlocks + 1, 1 << 32, 1<<32 + 1, math.MaxInt32, math.MaxInt}
}

// noKinds are numbers that no operation has.
func noKinds() []int {
	return []int{0, -1, -5, 9, 10, 255, 256 + 5, 1<<32 + 3, math.MinInt, math.MaxInt}
}

// laid gives a model, and a plain one, on which operations have been done that all are OK.
func laid(t *testing.T, ops ...api.Op) (*model.Model, *plain) {
	t.Helper()
	m, p := model.New(), newPlain()
	for _, o := range ops {
		errs(t, m, p, o, api.OK)
	}
	return m, p
}

// some gives volumes of all kinds.
func some(t *testing.T) (*model.Model, *plain) {
	t.Helper()
	return laid(t,
		create("empty", 0),
		create("a", 3),
		write("a", 0, block(1)),
		write("a", 300, block(2)),
		write("a", api.MaxBlocks-1, api.Block{}),
		snapshot("a", "snap"),
		write("a", 0, block(3)),
		create("z", api.MaxBlocks),
		write("z", 127, block(1)),
		write("z", 128, block(1)),
		snapshot("empty", "none"),
	)
}

// The chapter's example: Create a, Write a block, Read it: There.
func TestExample(t *testing.T) {
	m := model.New()
	for _, o := range []api.Op{create("a", 1), write("a", 5, block(7))} {
		if got := m.Do(o); !sameAnswer(got, api.Answer{}) {
			t.Fatalf("%v: %v", o, got)
		}
	}
	if got := m.Do(read("a", 5)); !sameAnswer(got, api.Answer{There: true, Block: block(7)}) {
		t.Errorf("%v", got)
	}
}

// P15.1: without volumes there is nothing to tell.
func TestNew(t *testing.T) {
	m, p := laid(t)
	if len(m.Images()) != 0 || m.Distinct() != 0 || m.Do(list()).Names != nil {
		t.Errorf("%v, %d", m.Images(), m.Distinct())
	}
	for _, name := range append(names(), noNames()...) {
		errs(t, m, p, remove(name), api.ErrNone)
		errs(t, m, p, write(name, 0, block(1)), api.ErrNone)
		errs(t, m, p, trim(name, 0), api.ErrNone)
		errs(t, m, p, read(name, 0), api.ErrNone)
		errs(t, m, p, snapshot(name, "new"), api.ErrNone)
		errs(t, m, p, clone(name, "new", 5), api.ErrNone)
	}
	holds(t, m, p)
	if m == model.New() {
		t.Error("two models are one")
	}
}

// P15.1: what is told of some volumes, said one by one.
func TestByHand(t *testing.T) {
	m, p := laid(t, create("b", 2), create("a", 5), write("b", 9, block(1)), write("b", 0, block(2)))
	want := []api.Image{{Name: "a", Quota: 5}, {Name: "b", Quota: 2, Blocks: []api.Numbered{{Number: 0, Block: block(2)}, {Number: 9, Block: block(1)}}}}
	if got := m.Images(); !sameImages(got, want) || m.Distinct() != 2 {
		t.Errorf("%v, %d", got, m.Distinct())
	}
	errs(t, m, p, snapshot("b", "B"), api.OK)
	errs(t, m, p, clone("B", "c", 3), api.OK)
	errs(t, m, p, write("b", 9, block(2)), api.OK)
	errs(t, m, p, trim("b", 0), api.OK)
	errs(t, m, p, remove("a"), api.OK)
	blocks := []api.Numbered{{Number: 0, Block: block(2)}, {Number: 9, Block: block(1)}}
	want = []api.Image{{Name: "B", Quota: 2, Frozen: true, Blocks: blocks}, {Name: "b", Quota: 2, Blocks: []api.Numbered{{Number: 9, Block: block(2)}}}, {Name: "c", Quota: 3, Blocks: blocks}}
	if got := m.Images(); !sameImages(got, want) || m.Distinct() != 2 {
		t.Errorf("%v, %d", got, m.Distinct())
	}
	does(t, m, p, list(), api.Answer{Names: []string{"B", "b", "c"}})
	holds(t, m, p)
}

// P15.1: each name and quota that may be gives a volume without blocks; once there is such a volume there isn't another one.
func TestCreate(t *testing.T) {
	m, p := laid(t)
	for i, name := range names() {
		errs(t, m, p, create(name, quotas()[i%len(quotas())]), api.OK)
		holds(t, m, p)
		for _, quota := range quotas() {
			errs(t, m, p, create(name, quota), api.ErrThere)
		}
	}
	for _, quota := range quotas() {
		m, _ := laid(t, create("a", quota))
		if got := m.Images(); !sameImages(got, []api.Image{{Name: "a", Quota: quota}}) {
			t.Errorf("quota %d: %v", quota, got)
		}
	}
	holds(t, m, p)
}

// P15.1: no other name and quota may be, whether there is such a volume or not, and then nothing changes.
func TestMayNotBe(t *testing.T) {
	m, p := some(t)
	froms := []string{"a", "empty", "snap", "missing", "", "a b"}
	for _, name := range noNames() {
		errs(t, m, p, create(name, 5), api.ErrArg)
		errs(t, m, p, create(name, -1), api.ErrArg)
		for _, from := range append(froms, name) {
			errs(t, m, p, snapshot(from, name), api.ErrArg)
			errs(t, m, p, clone(from, name, 5), api.ErrArg)
			errs(t, m, p, clone(from, name, -1), api.ErrArg)
		}
	}
	for _, quota := range noQuotas() {
		for _, name := range []string{"new", "a", "snap", ""} {
			errs(t, m, p, create(name, quota), api.ErrArg)
			for _, from := range froms {
				errs(t, m, p, clone(from, name, quota), api.ErrArg)
			}
		}
	}
	holds(t, m, p)
}

// P15.1: what is deleted is gone, also if it is frozen; it can be made anew, without blocks; its copies stay.
func TestDelete(t *testing.T) {
	for _, name := range []string{"empty", "a", "snap", "z", "none"} {
		m, p := some(t)
		errs(t, m, p, remove(name), api.OK)
		holds(t, m, p)
		errs(t, m, p, remove(name), api.ErrNone)
		errs(t, m, p, read(name, 0), api.ErrNone)
		errs(t, m, p, clone(name, "new", 9), api.ErrNone)
		errs(t, m, p, create(name, 1), api.OK)
		errs(t, m, p, write(name, 7, block(9)), api.OK)
		errs(t, m, p, write(name, 8, block(9)), api.ErrQuota)
		holds(t, m, p)
	}
}

// P15.1: a block is what was written last; a write is answered with nothing, whatever was there; a block of 0 is one, too.
func TestWrite(t *testing.T) {
	for _, number := range []int{0, 1, 127, 128, api.MaxBlocks - 1} {
		m, p := laid(t, create("a", 1), create("b", 1))
		for _, b := range []api.Block{{}, at(0, 1), at(47, 255), block(1), block(1), {}} {
			errs(t, m, p, write("a", number, b), api.OK)
			does(t, m, p, read("a", number), api.Answer{There: true, Block: b})
			does(t, m, p, read("a", (number+1)%api.MaxBlocks), api.Answer{})
			does(t, m, p, read("b", number), api.Answer{})
			holds(t, m, p)
		}
	}
}

// P15.1: there are at most as many blocks as the quota; one that is there may be another one all the same.
func TestQuota(t *testing.T) {
	for quota := range 5 {
		m, p := laid(t, create("a", quota))
		for i := range quota {
			errs(t, m, p, write("a", 7*i, block(i)), api.OK)
		}
		for _, number := range []int{1, 7 * quota, api.MaxBlocks - 1} {
			errs(t, m, p, write("a", number, block(0)), api.ErrQuota)
		}
		holds(t, m, p)
		for i := range quota {
			errs(t, m, p, write("a", 7*i, block(10+i)), api.OK)
			errs(t, m, p, trim("a", 1), api.OK)
			errs(t, m, p, write("a", 1, block(9)), api.ErrQuota)
			errs(t, m, p, trim("a", 7*i), api.OK)
			errs(t, m, p, write("a", 1, block(9)), api.OK)
			errs(t, m, p, trim("a", 1), api.OK)
			errs(t, m, p, write("a", 7*i, block(i)), api.OK)
		}
		holds(t, m, p)
	}
}

// P15.1: what is trimmed is there no more; a trim is answered with nothing, whether there was a block or none.
func TestTrim(t *testing.T) {
	m, p := some(t)
	for _, number := range []int{300, 300, 301, 0, api.MaxBlocks - 1, api.MaxBlocks - 2} {
		errs(t, m, p, trim("a", number), api.OK)
		does(t, m, p, read("a", number), api.Answer{})
		holds(t, m, p)
	}
	errs(t, m, p, trim("empty", 0), api.OK)
	does(t, m, p, read("snap", 300), api.Answer{There: true, Block: block(2)})
	holds(t, m, p)
}

// P15.1: of a block there is the volume is asked for first, then the number, then whether it is frozen, then its quota.
func TestOrderOfErrors(t *testing.T) {
	m, p := some(t)
	for _, number := range noNumbers() {
		for _, o := range []api.Op{write("", number, block(9)), trim("", number), read("", number)} {
			for _, name := range []string{"missing", "", "a b", "A"} {
				o.Name = name
				errs(t, m, p, o, api.ErrNone)
			}
			for _, name := range []string{"a", "empty", "snap", "none", "z"} {
				o.Name = name
				errs(t, m, p, o, api.ErrRange)
			}
		}
	}
	for _, number := range []int{0, 1, 300, api.MaxBlocks - 1} {
		for _, name := range []string{"snap", "none"} {
			errs(t, m, p, write(name, number, block(9)), api.ErrFrozen)
			errs(t, m, p, trim(name, number), api.ErrFrozen)
		}
	}
	does(t, m, p, read("snap", 0), api.Answer{There: true, Block: block(1)})
	does(t, m, p, read("snap", 1), api.Answer{})
	does(t, m, p, read("none", 0), api.Answer{})
	errs(t, m, p, write("a", 1, block(9)), api.ErrQuota)
	errs(t, m, p, write("empty", 0, block(9)), api.ErrQuota)
	holds(t, m, p)
}

// P15.1: of several errors of a copy the one that is named first is answered, and nothing changes.
func TestCopyErrors(t *testing.T) {
	m, p := some(t)
	for _, c := range []struct {
		o    api.Op
		want api.Errno
	}{
		{snapshot("missing", "a b"), api.ErrArg},
		{snapshot("missing", ""), api.ErrArg},
		{snapshot("missing", "a"), api.ErrNone},
		{snapshot("missing", "new"), api.ErrNone},
		{snapshot("missing", "missing"), api.ErrNone},
		{snapshot("a b", "new"), api.ErrNone},
		{snapshot("A", "new"), api.ErrNone},
		{snapshot("a", "a"), api.ErrThere},
		{snapshot("a", "snap"), api.ErrThere},
		{snapshot("snap", "empty"), api.ErrThere},
		{clone("missing", "a b", -1), api.ErrArg},
		{clone("missing", "a", -1), api.ErrArg},
		{clone("a", "snap", api.MaxBlocks+1), api.ErrArg},
		{clone("missing", "a", 0), api.ErrNone},
		{clone("missing", "new", 9), api.ErrNone},
		{clone("a", "snap", 0), api.ErrThere},
		{clone("a", "a", 3), api.ErrThere},
		{clone("a", "new", 0), api.ErrQuota},
		{clone("a", "new", 2), api.ErrQuota},
		{clone("snap", "new", 2), api.ErrQuota},
	} {
		errs(t, m, p, c.o, c.want)
	}
	holds(t, m, p)
}

// P15.1: a snapshot is frozen, with the quota of what it is of, whatever the operation's one; from then on each goes its own way.
func TestSnapshot(t *testing.T) {
	for _, quota := range append(quotas(), noQuotas()...) {
		for _, name := range []string{"a", "snap", "empty", "none", "z"} {
			m, p := some(t)
			o := snapshot(name, "new")
			o.Quota = quota
			errs(t, m, p, o, api.OK)
			images := m.Images()
			was := images[slices.IndexFunc(images, func(v api.Image) bool { return v.Name == name })]
			was.Name, was.Frozen = "new", true
			is := images[slices.IndexFunc(images, func(v api.Image) bool { return v.Name == "new" })]
			if !sameImages([]api.Image{is}, []api.Image{was}) {
				t.Fatalf("%v, not %v", is, was)
			}
			errs(t, m, p, write("new", 0, block(50)), api.ErrFrozen)
			errs(t, m, p, trim("new", 300), api.ErrFrozen)
			m.Do(write(name, 0, block(50)))
			p.do(write(name, 0, block(50)))
			m.Do(trim(name, 300))
			p.do(trim(name, 300))
			holds(t, m, p)
			errs(t, m, p, remove(name), api.OK)
			holds(t, m, p)
		}
	}
}

// P15.1: a clone isn't frozen, whatever it is of, and has its own quota; from then on each goes its own way.
func TestClone(t *testing.T) {
	for _, name := range []string{"a", "snap"} {
		for _, quota := range []int{3, 4, api.MaxBlocks} {
			m, p := some(t)
			errs(t, m, p, clone(name, "new", quota), api.OK)
			holds(t, m, p)
			errs(t, m, p, write("new", 0, block(50)), api.OK)
			errs(t, m, p, trim("new", 300), api.OK)
			holds(t, m, p)
			does(t, m, p, read(name, 300), api.Answer{There: true, Block: block(2)})
			errs(t, m, p, write("new", 1, block(51)), api.OK)
			if quota > 3 {
				errs(t, m, p, write("new", 2, block(52)), api.OK)
			} else {
				errs(t, m, p, write("new", 2, block(52)), api.ErrQuota)
			}
			m.Do(write(name, 300, block(53)))
			p.do(write(name, 300, block(53)))
			holds(t, m, p)
			errs(t, m, p, remove(name), api.OK)
			holds(t, m, p)
		}
	}
	m, p := some(t)
	errs(t, m, p, clone("none", "new", 0), api.OK)
	errs(t, m, p, write("new", 0, block(1)), api.ErrQuota)
	holds(t, m, p)
}

// P15.1: there are eight kinds of operations; others are wrong, and change nothing.
func TestOtherKinds(t *testing.T) {
	m, p := some(t)
	for _, kind := range noKinds() {
		for _, o := range []api.Op{{}, create("new", 5), remove("a"), write("a", 0, block(9)), trim("a", 0), read("a", 0), clone("a", "new", 5), create("", -1)} {
			o.Kind = kind
			errs(t, m, p, o, api.ErrArg)
		}
	}
	holds(t, m, p)
}

// P15.1: what an operation doesn't speak of is nothing to it.
func TestFieldsThatAreNothing(t *testing.T) {
	all := api.Op{Name: "a b", Other: "c d", Number: -1, Quota: -1, Block: block(77)}
	full := func(o api.Op, keeps string) api.Op {
		out := all
		out.Kind, out.Name = o.Kind, o.Name
		for _, k := range keeps {
			switch k {
			case 'o':
				out.Other = o.Other
			case 'n':
				out.Number = o.Number
			case 'q':
				out.Quota = o.Quota
			case 'b':
				out.Block = o.Block
			}
		}
		return out
	}
	m, p := laid(t,
		full(create("a", 3), "q"),
		full(write("a", 5, block(1)), "nb"),
		full(write("a", 6, block(2)), "nb"),
		full(trim("a", 5), "n"),
		full(snapshot("a", "b"), "o"),
		full(clone("b", "c", 2), "oq"),
		full(remove("a"), ""),
	)
	does(t, m, p, full(read("c", 6), "n"), api.Answer{There: true, Block: block(2)})
	does(t, m, p, full(read("c", 5), "n"), api.Answer{})
	for _, name := range []string{"", "a b", "b"} {
		o := full(list(), "")
		o.Name = name
		does(t, m, p, o, api.Answer{Names: []string{"b", "c"}})
	}
	holds(t, m, p)
}

// P15.1: names rise by their bytes, and blocks by their numbers, in whatever order they came.
func TestRises(t *testing.T) {
	rising := []string{"!", "!!", "!~", "0", "1", "10", "2", "A", "Z", "ZZ", "a", "a!", "aa", "b", strings.Repeat("b", 19), strings.Repeat("b", 20), "~"}
	numbers := []int{0, 1, 2, 9, 10, 11, 100, 127, 128, 255, 256, 65535, 65536, api.MaxBlocks - 1}
	for seed := range uint64(20) {
		m := model.New()
		r := rand.New(rand.NewPCG(seed, 3))
		for _, i := range r.Perm(len(rising)) {
			m.Do(create(rising[i], 20))
			for _, k := range r.Perm(len(numbers)) {
				m.Do(write(rising[i], numbers[k], block(k)))
			}
		}
		if got := m.Do(list()); !sameAnswer(got, api.Answer{Names: rising}) {
			t.Fatalf("%v", got)
		}
		images := m.Images()
		if len(images) != len(rising) {
			t.Fatalf("%d volumes", len(images))
		}
		for i, v := range images {
			var got []int
			for k, b := range v.Blocks {
				got = append(got, b.Number)
				if b.Block != block(k) {
					t.Fatalf("%q: %d: another block", v.Name, b.Number)
				}
			}
			if v.Name != rising[i] || !slices.Equal(got, numbers) {
				t.Fatalf("%q: %v", v.Name, got)
			}
		}
	}
}

// P15.1: each block is counted once, however often it is there, in one volume, in many, or in snapshots; and no more when it is nowhere.
func TestDistinct(t *testing.T) {
	m, p := laid(t, create("a", 100), create("b", 100))
	counts := func(o api.Op, want int) {
		t.Helper()
		errs(t, m, p, o, api.OK)
		if got := m.Distinct(); got != want || p.distinct() != want {
			t.Fatalf("%v: %d, not %d", o, got, want)
		}
	}
	counts(write("a", 0, block(1)), 1)
	counts(write("a", 0, block(1)), 1)
	counts(write("a", 1, block(1)), 1)
	counts(write("b", 0, block(1)), 1)
	counts(write("b", 1, api.Block{}), 2)
	counts(write("a", 2, api.Block{}), 2)
	counts(snapshot("a", "s"), 2)
	counts(clone("s", "c", 100), 2)
	counts(write("a", 0, block(2)), 3)
	counts(trim("a", 0), 2)
	counts(trim("a", 0), 2)
	counts(remove("a"), 2)
	counts(remove("s"), 2)
	counts(trim("b", 1), 2)
	counts(trim("c", 2), 1)
	counts(remove("c"), 1)
	counts(trim("b", 0), 0)
	// blocks that differ in one byte alone, wherever it is
	for place := range api.BlockBytes {
		counts(write("b", place, at(place, 1)), place+1)
	}
	counts(write("b", 48, at(0, 2)), 49)
	counts(write("b", 49, at(47, 128)), 50)
}

// Rule 4: what is answered is new memory.
func TestSharesNothing(t *testing.T) {
	m, p := some(t)
	first, second := m.Images(), m.Images()
	for i := range first {
		clear(first[i].Blocks)
		_ = append(first[i].Blocks, api.Numbered{Number: 9})
		for k := i + 1; k < len(first); k++ {
			if !slices.Equal(first[k].Blocks, p.images()[k].Blocks) {
				t.Error("two lists of one answer share blocks")
			}
		}
	}
	clear(first)
	_ = append(first[:0], api.Image{Quota: 9})
	if !sameImages(second, p.images()) {
		t.Error("two answers of Images share volumes")
	}
	names, others := m.Do(list()).Names, m.Do(list()).Names
	clear(names)
	if !slices.Equal(others, []string{"a", "empty", "none", "snap", "z"}) {
		t.Error("two answers of OpList share names")
	}
	holds(t, m, p)
}
