package bin_test

import (
	"crypto/sha256"
	"encoding/binary"

	"sporran/api"
)

// tagged is chapter 2's digest of rows, for a use, told once more.
func tagged(use byte, rows ...[]byte) api.Digest {
	told := []byte{use}
	for _, row := range rows {
		told = append(binary.AppendUvarint(told, uint64(len(row))), row...)
	}
	return sha256.Sum256(told)
}

func fingerOf(b api.Block) api.Digest { return tagged(6, b[:]) }

// rootOf is the root of one block or more told in another way than chapter 3: two neighbours become one, an odd last one goes up as it is.
func rootOf(blocks []api.Block) api.Digest {
	var level []api.Digest
	for _, b := range blocks {
		level = append(level, tagged(0, b[:]))
	}
	for len(level) > 1 {
		var next []api.Digest
		for ; len(level) > 1; level = level[2:] {
			next = append(next, tagged(1, level[0][:], level[1][:]))
		}
		level = append(next, level...)
	}
	return level[0]
}

// plain is a disk told once more, as a row of bytes.
type plain []byte

func (p plain) has(at, sectors int) bool {
	return at >= 0 && at <= len(p)/64 && sectors <= len(p)/64-at
}

func (p plain) block(at int) api.Block { return api.Block(p[at*64:][:48]) }

func (p plain) write(number, at int, blocks []api.Block) (api.Bin, api.Errno) {
	if number < 0 || len(blocks) == 0 {
		return api.Bin{}, api.ErrArg
	}
	if !p.has(at, len(blocks)) {
		return api.Bin{}, api.ErrRange
	}
	for i, b := range blocks {
		clear(p[(at+i)*64:][:64])
		copy(p[(at+i)*64:], b[:])
	}
	return api.Bin{Number: number, At: at, Count: len(blocks), Root: rootOf(blocks)}, api.OK
}

func (p plain) read(b api.Bin, slot int, finger api.Digest) (api.Block, api.Errno) {
	if slot < 0 || slot >= b.Count {
		return api.Block{}, api.ErrRange
	}
	if !p.has(b.At, 1) || !p.has(b.At+slot, 1) || fingerOf(p.block(b.At+slot)) != finger {
		return api.Block{}, api.ErrTampered
	}
	return p.block(b.At + slot), api.OK
}

func (p plain) all(b api.Bin) ([]api.Block, api.Errno) {
	if b.Count < 1 || !p.has(b.At, b.Count) {
		return nil, api.ErrTampered
	}
	var blocks []api.Block
	for i := range b.Count {
		blocks = append(blocks, p.block(b.At+i))
	}
	if rootOf(blocks) != b.Root {
		return nil, api.ErrTampered
	}
	return blocks, api.OK
}
