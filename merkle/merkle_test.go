package merkle_test

import (
	"bytes"
	"crypto/sha256"
	"math"
	"slices"
	"strconv"
	"sync"
	"testing"

	"sporran/api"
	"sporran/merkle"
)

const mostRows = 40

// tagged is what chapter 2 tells, of rows below 128 bytes each.
func tagged(use byte, rows ...[]byte) api.Digest {
	b := []byte{use}
	for _, row := range rows {
		b = append(append(b, byte(len(row))), row...)
	}
	return sha256.Sum256(b)
}

func ofRow(row []byte) api.Digest { return tagged(0, row) }

func ofParts(a, b api.Digest) api.Digest { return tagged(1, a[:], b[:]) }

// rowsOf gives n rows that differ, one of them empty.
func rowsOf(n int) [][]byte {
	rows := make([][]byte, n)
	for i := range rows {
		rows[i] = bytes.Repeat([]byte{byte(i)}, i)
	}
	return rows
}

// levels tells all the roots of parts in another way than the chapter: two neighbours become one, an odd last one goes up as it is.
func levels(rows [][]byte) [][]api.Digest {
	var level []api.Digest
	for _, row := range rows {
		level = append(level, ofRow(row))
	}
	all := [][]api.Digest{level}
	for len(level) > 1 {
		var next []api.Digest
		for pair := range slices.Chunk(level, 2) {
			if len(pair) == 2 {
				next = append(next, ofParts(pair[0], pair[1]))
			} else {
				next = append(next, pair[0])
			}
		}
		level = next
		all = append(all, level)
	}
	return all
}

// sides tells of each digest of a proof, by the neighbours of levels, whether it stands ahead.
func sides(count, at uint64) []bool {
	var ahead []bool
	for ; count > 1; count, at = count/2+count%2, at/2 {
		if at%2 == 1 {
			ahead = append(ahead, true)
		} else if at+1 < count {
			ahead = append(ahead, false)
		}
	}
	return ahead
}

// proofBy gives the proof that the neighbours of levels make.
func proofBy(all [][]api.Digest, at int) []api.Digest {
	var proof []api.Digest
	for _, level := range all {
		if other := at ^ 1; other < len(level) {
			proof = append(proof, level[other])
		}
		at /= 2
	}
	return proof
}

// rootBy gives the root to which a proof leads.
func rootBy(row []byte, proof []api.Digest, ahead []bool) api.Digest {
	d := ofRow(row)
	for i, other := range proof {
		if ahead[i] {
			d = ofParts(other, d)
		} else {
			d = ofParts(d, other)
		}
	}
	return d
}

// proofOf gives the proof of a row that there is.
func proofOf(t *testing.T, rows [][]byte, at int) []api.Digest {
	t.Helper()
	proof, err := merkle.Prove(rows, at)
	if err != api.OK {
		t.Fatalf("row %d of %d: %v", at, len(rows), err)
	}
	return proof
}

// P3.1: the roots of few rows, written out.
func TestRootAsTold(t *testing.T) {
	a, b, c, d, e := []byte("a"), []byte("bb"), []byte(nil), []byte("dddd"), []byte("a")
	ab := ofParts(ofRow(a), ofRow(b))
	cd := ofParts(ofRow(c), ofRow(d))
	for _, x := range []struct {
		rows [][]byte
		want api.Digest
	}{
		{nil, tagged(2)},
		{[][]byte{}, tagged(2)},
		{[][]byte{a}, ofRow(a)},
		{[][]byte{nil}, ofRow(nil)},
		{[][]byte{{}}, ofRow(nil)},
		{[][]byte{a, b}, ab},
		{[][]byte{a, b, c}, ofParts(ab, ofRow(c))},
		{[][]byte{a, b, c, d}, ofParts(ab, cd)},
		{[][]byte{a, b, c, d, e}, ofParts(ofParts(ab, cd), ofRow(e))},
		{[][]byte{a, b, c, d, a, b}, ofParts(ofParts(ab, cd), ab)},
		{[][]byte{a, b, c, d, a, b, c}, ofParts(ofParts(ab, cd), ofParts(ab, ofRow(c)))},
		{[][]byte{a, b, c, d, c, d, a, b}, ofParts(ofParts(ab, cd), ofParts(cd, ab))},
	} {
		if merkle.Root(x.rows) != x.want {
			t.Errorf("the root of %q", x.rows)
		}
	}
}

// P3.1: the roots of rows of each small number, and of some greater ones.
func TestRootOfEachNumber(t *testing.T) {
	for n := 1; n <= 128; n++ {
		all := levels(rowsOf(n))
		if merkle.Root(rowsOf(n)) != all[len(all)-1][0] {
			t.Errorf("%d rows", n)
		}
	}
	for _, n := range []int{255, 256, 257, 1000, 1023, 1025} {
		var rows [][]byte
		for i := range n {
			rows = append(rows, []byte(strconv.Itoa(i)))
		}
		all := levels(rows)
		if merkle.Root(rows) != all[len(all)-1][0] {
			t.Errorf("%d rows", n)
		}
	}
}

// P3.1: the proofs of few rows, written out.
func TestProveAsTold(t *testing.T) {
	a, b, c, d, e := []byte("a"), []byte("b"), []byte("c"), []byte("d"), []byte("e")
	ab, cd := ofParts(ofRow(a), ofRow(b)), ofParts(ofRow(c), ofRow(d))
	abcd := ofParts(ab, cd)
	for _, x := range []struct {
		rows [][]byte
		want [][]api.Digest
	}{
		{[][]byte{a}, [][]api.Digest{nil}},
		{[][]byte{a, b}, [][]api.Digest{{ofRow(b)}, {ofRow(a)}}},
		{[][]byte{a, b, c}, [][]api.Digest{{ofRow(b), ofRow(c)}, {ofRow(a), ofRow(c)}, {ab}}},
		{[][]byte{a, b, c, d}, [][]api.Digest{{ofRow(b), cd}, {ofRow(a), cd}, {ofRow(d), ab}, {ofRow(c), ab}}},
		{[][]byte{a, b, c, d, e}, [][]api.Digest{{ofRow(b), cd, ofRow(e)}, {ofRow(a), cd, ofRow(e)}, {ofRow(d), ab, ofRow(e)}, {ofRow(c), ab, ofRow(e)}, {abcd}}},
	} {
		for at, want := range x.want {
			if !slices.Equal(proofOf(t, x.rows, at), want) {
				t.Errorf("the proof of row %d of %q", at, x.rows)
			}
		}
	}
}

// P3.1, P3.3: the proofs of rows of each small number; each is verified.
func TestProofOfEachRow(t *testing.T) {
	for n := 1; n <= 70; n++ {
		rows := rowsOf(n)
		root, all := merkle.Root(rows), levels(rows)
		for at, row := range rows {
			proof := proofOf(t, rows, at)
			if !slices.Equal(proof, proofBy(all, at)) {
				t.Errorf("the proof of row %d of %d", at, n)
			}
			if !merkle.Verify(root, n, at, row, proof) {
				t.Errorf("row %d of %d isn't shown", at, n)
			}
		}
	}
}

// P3.1: where there is no row there is no proof.
func TestProveOutOfBounds(t *testing.T) {
	for _, n := range []int{0, 1, 2, 3, 8} {
		for _, at := range []int{math.MinInt, -n - 1, -n - 2, -1, n, n + 1, 2 * (n + 1), 1 << 32, math.MaxInt} {
			if proof, err := merkle.Prove(rowsOf(n), at); err != api.ErrRange || len(proof) != 0 {
				t.Errorf("row %d of %d: %v", at, n, err)
			}
		}
	}
}

// P3.2, P3.3: another row isn't shown, nor any under another root.
func TestAnotherRow(t *testing.T) {
	for n := 1; n <= mostRows; n++ {
		rows := rowsOf(n)
		root := merkle.Root(rows)
		for at, row := range rows {
			proof := proofOf(t, rows, at)
			others := [][]byte{append(slices.Clone(row), 0), append([]byte{0}, row...), []byte("another"), rows[(at+1)%n]}
			if len(row) > 0 {
				others = append(others, nil, row[1:], append([]byte{row[0] ^ 128}, row[1:]...))
			}
			for _, other := range others {
				if !bytes.Equal(other, row) && merkle.Verify(root, n, at, other, proof) {
					t.Errorf("row %d of %d: %v is shown", at, n, other)
				}
			}
			for i := range root {
				changed := root
				changed[i] ^= 1 << (at % 8)
				if merkle.Verify(changed, n, at, row, proof) {
					t.Errorf("row %d of %d is shown under another root", at, n)
				}
			}
			if merkle.Verify(api.Digest{}, n, at, row, proof) || merkle.Verify(tagged(2), n, at, row, proof) {
				t.Errorf("row %d of %d is shown under no root of its", at, n)
			}
		}
	}
}

// P3.2: at another place the proof of a row shows nothing.
func TestAnotherPlace(t *testing.T) {
	for n := 1; n <= mostRows; n++ {
		rows := rowsOf(n)
		root := merkle.Root(rows)
		for at, row := range rows {
			proof := proofOf(t, rows, at)
			for other := -2; other < n+3; other++ {
				if merkle.Verify(root, n, other, row, proof) != (other == at) {
					t.Errorf("row %d of %d at %d", at, n, other)
				}
			}
		}
	}
}

// P3.2: among another number of rows all hangs on the root that it leads to: that of the same one only where each digest stands on the same side.
func TestAnotherNumber(t *testing.T) {
	for n := 1; n <= mostRows; n++ {
		rows := rowsOf(n)
		root := merkle.Root(rows)
		for at, row := range rows {
			proof := proofOf(t, rows, at)
			for count := -2; count < 2*mostRows; count++ {
				want := at < count && slices.Equal(sides(uint64(max(count, 0)), uint64(at)), sides(uint64(n), uint64(at)))
				if merkle.Verify(root, count, at, row, proof) != want {
					t.Errorf("row %d of %d, among %d: not %v", at, n, count, want)
				}
			}
		}
	}
}

// P3.2, P3.3: a proof of which a digest is changed, or stands elsewhere, shows nothing.
func TestChangedProof(t *testing.T) {
	for n := 2; n <= 20; n++ {
		rows := rowsOf(n)
		root := merkle.Root(rows)
		for at, row := range rows {
			proof := proofOf(t, rows, at)
			for i := range proof {
				for j := range proof[i] {
					changed := slices.Clone(proof)
					changed[i][j] ^= 1 << (j % 8)
					if merkle.Verify(root, n, at, row, changed) || merkle.Verify(root, n, at, rows[(at+1)%n], changed) {
						t.Errorf("row %d of %d: byte %d of digest %d doesn't count", at, n, j, i)
					}
				}
				if i > 0 {
					changed := slices.Clone(proof)
					changed[i-1], changed[i] = changed[i], changed[i-1]
					if merkle.Verify(root, n, at, row, changed) {
						t.Errorf("row %d of %d: digests %d and %d changed places", at, n, i-1, i)
					}
				}
			}
		}
	}
}

// P3.2: a proof that is longer or shorter shows nothing, though what it leads to were the root.
func TestProofOfAnotherLength(t *testing.T) {
	for n := 1; n <= mostRows; n++ {
		rows := rowsOf(n)
		root := merkle.Root(rows)
		for at, row := range rows {
			proof := proofOf(t, rows, at)
			for cut := range len(proof) {
				if merkle.Verify(root, n, at, row, proof[:cut]) || merkle.Verify(root, n, at, row, proof[cut+1:]) {
					t.Errorf("row %d of %d: a shorter proof", at, n)
				}
			}
			if merkle.Verify(ofRow(row), n, at, row, nil) != (n == 1) {
				t.Errorf("row %d of %d: no proof", at, n)
			}
			for _, more := range []api.Digest{{}, root, ofRow(row)} {
				longer := append(slices.Clone(proof), more)
				ahead := append([]api.Digest{more}, proof...)
				for _, under := range []api.Digest{root, ofParts(root, more), ofParts(more, root)} {
					if merkle.Verify(under, n, at, row, longer) || merkle.Verify(under, n, at, row, ahead) {
						t.Errorf("row %d of %d: a longer proof", at, n)
					}
				}
			}
			if merkle.Verify(root, n, at, row, make([]api.Digest, 100)) {
				t.Errorf("row %d of %d: a far longer proof", at, n)
			}
		}
	}
}

// P3.2: rows that are one are shown wherever they stand; what is inside the tree is no row.
func TestEqualRowsAndInnerRoots(t *testing.T) {
	same := [][]byte{[]byte("a"), []byte("a")}
	root, proof := merkle.Root(same), proofOf(t, same, 0)
	if !merkle.Verify(root, 2, 0, same[0], proof) || !merkle.Verify(root, 2, 1, same[1], proof) {
		t.Error("equal rows")
	}
	rows := rowsOf(4)
	root = merkle.Root(rows)
	first, others := merkle.Root(rows[:2]), merkle.Root(rows[2:])
	left, right := ofRow(rows[0]), ofRow(rows[1])
	joined := append(append([]byte{32}, left[:]...), append([]byte{32}, right[:]...)...)
	for _, row := range [][]byte{first[:], joined, append([]byte{1}, joined...), append(left[:], right[:]...)} {
		if merkle.Verify(root, 2, 0, row, []api.Digest{others}) {
			t.Errorf("%v is taken for a row", row)
		}
	}
	if merkle.Verify(tagged(2), 0, 0, nil, nil) || merkle.Verify(tagged(2), 1, 0, nil, nil) {
		t.Error("a row is shown among none")
	}
}

// P3.2, P1: also among the greatest numbers of rows a proof leads to a root, and places out of bounds show nothing.
func TestGreatNumbers(t *testing.T) {
	row := []byte("row")
	proof := make([]api.Digest, 80)
	for i := range proof {
		proof[i] = ofRow([]byte{byte(i)})
	}
	counts := []int{math.MaxInt, math.MaxInt - 1, 1 << 62, 1<<62 + 1, 1<<62 - 1, 1 << 40, 1<<31 + 3, 1000003}
	for _, count := range counts {
		for _, at := range []int{0, 1, count / 3, count / 2, count/2 + 1, count - 2, count - 1} {
			ahead := sides(uint64(count), uint64(at))
			for length := range proof {
				root := rootBy(row, proof[:min(length, len(ahead))], ahead)
				if merkle.Verify(root, count, at, row, proof[:length]) != (length == len(ahead)) {
					t.Errorf("row %d of %d, %d digests", at, count, length)
				}
			}
		}
		for _, at := range []int{math.MinInt, -count, -1, count, math.MaxInt} {
			for length := range proof {
				if merkle.Verify(ofRow(row), count, at, row, proof[:length]) {
					t.Errorf("row %d of %d is shown", at, count)
				}
			}
		}
	}
	for _, count := range []int{math.MinInt, math.MinInt + 1, -2, -1, 0} {
		for _, at := range []int{math.MinInt, count - 1, count, count + 1, -1, 0, 1, math.MaxInt} {
			if merkle.Verify(ofRow(row), count, at, row, nil) || merkle.Verify(tagged(2), count, at, row, proof[:1]) {
				t.Errorf("row %d of %d is shown", at, count)
			}
		}
	}
}

// Rule 4: what is handed in isn't changed, and answers share nothing.
func TestSharesNothing(t *testing.T) {
	for n := 1; n <= 20; n++ {
		rows, was := rowsOf(n), rowsOf(n)
		root := merkle.Root(rows)
		for at := range rows {
			proof, again := proofOf(t, rows, at), proofOf(t, rows, at)
			kept := slices.Clone(proof)
			if !merkle.Verify(root, n, at, rows[at], proof) || !slices.Equal(proof, kept) {
				t.Errorf("row %d of %d: the proof is changed", at, n)
			}
			clear(proof)
			_ = append(proof, root)
			if !slices.Equal(again, kept) {
				t.Errorf("row %d of %d: two proofs share digests", at, n)
			}
		}
		if !slices.EqualFunc(rows, was, bytes.Equal) {
			t.Errorf("%d rows are changed", n)
		}
	}
}

// P2: the same calls give the same answers, also beside others.
func TestSameCallsSameAnswers(t *testing.T) {
	rows := rowsOf(mostRows)
	var roots [mostRows + 1]api.Digest
	for n := range roots {
		roots[n] = merkle.Root(rows[:n])
	}
	var beside sync.WaitGroup
	for range 4 {
		beside.Go(func() {
			for n := mostRows; n > 0; n-- {
				proof, err := merkle.Prove(rows[:n], n/2)
				if merkle.Root(rows[:n]) != roots[n] || err != api.OK || !merkle.Verify(roots[n], n, n/2, rows[n/2], proof) {
					t.Errorf("%d rows: another answer", n)
				}
			}
		})
	}
	beside.Wait()
}
