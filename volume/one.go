package volume

import (
	"maps"
	"slices"

	"sporran/api"
)

// The bytes that names are made of.
const (
	firstByte = 33
	lastByte  = 126
)

// volume is one volume, but for its name.
type volume struct {
	quota  int
	frozen bool
	blocks map[int]api.Digest // fingerprints, by the blocks' numbers
}

// copied gives a volume of its own with the same blocks.
func (v *volume) copied(quota int, frozen bool) *volume {
	return &volume{quota: quota, frozen: frozen, blocks: maps.Clone(v.blocks)}
}

// cells gives the blocks, rising by their numbers.
func (v *volume) cells() []api.Cell {
	cells := make([]api.Cell, 0, len(v.blocks))
	for _, number := range slices.Sorted(maps.Keys(v.blocks)) {
		cells = append(cells, api.Cell{Number: number, Finger: v.blocks[number]})
	}
	return cells
}

// mayName tells whether a volume may have that name.
func mayName(name string) bool {
	if len(name) < 1 || len(name) > api.MaxName {
		return false
	}
	for i := range len(name) { // its bytes: a range over the name itself would tell runes
		if name[i] < firstByte || name[i] > lastByte {
			return false
		}
	}
	return true
}

// mayQuota tells whether a volume may have that quota.
func mayQuota(quota int) bool { return quota >= 0 && quota <= api.MaxBlocks }
