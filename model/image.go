package model

import (
	"maps"
	"slices"

	"sporran/api"
)

// image is one volume, but for its name.
type image struct {
	quota  int
	frozen bool
	blocks map[int]api.Block // by their numbers
}

// numbered gives the blocks, rising by their numbers.
func (v image) numbered() []api.Numbered {
	var blocks []api.Numbered
	for _, number := range slices.Sorted(maps.Keys(v.blocks)) {
		blocks = append(blocks, api.Numbered{Number: number, Block: v.blocks[number]})
	}
	return blocks
}
