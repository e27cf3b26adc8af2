package store

import (
	"bytes"
	"maps"
	"math"
	"slices"

	"sporran/api"
	"sporran/bin"
	"sporran/blob"
	"sporran/commit"
	"sporran/disk"
	"sporran/index"
	"sporran/merkle"
	"sporran/slots"
)

// plan is what is to last next. It is laid on twins: till the cell advances the store has nothing of it.
type plan struct {
	lasting
	index  *index.Index
	writes []func(*disk.Disk) // what is to be written, in order
}

// advance lets all last that there is now, with the blocks that are to stand in a new bin, and the events that the commit tells.
func (s *Store) advance(blocks map[api.Digest]api.Block, events [][]byte) api.Errno {
	if s.epoch == math.MaxUint64 {
		return api.ErrCounter
	}
	p, fits := s.plan(blocks, events)
	if !fits {
		return api.ErrSpace
	}
	p.write(s.disk)
	if s.disk.Dead() {
		return api.ErrDown
	}
	if err := s.cell.Advance(p.commit.Digest); err != api.OK {
		return err
	}
	p.release(s.lasting)
	s.lasting, s.index = p.lasting, p.index
	s.fresh, s.events = map[api.Digest]api.Block{}, nil
	return api.OK
}

// plan lays all that is to last next, and tells whether there is room for it.
func (s *Store) plan(blocks map[api.Digest]api.Block, events [][]byte) (*plan, bool) {
	p := &plan{lasting: s.lasting, index: s.index.Twin()}
	p.epoch++
	p.bins, p.space = maps.Clone(s.bins), s.space.Twin()
	if !p.layBlocks(blocks) {
		return nil, false
	}
	volumes, fits := p.lay(s.volumes.Encode())
	if !fits {
		return nil, false
	}
	places, fits := p.lay(p.index.Encode())
	if !fits {
		return nil, false
	}
	p.passing = []api.Ref{volumes, places}
	p.dropBins()
	p.trie = s.volumes.Trie()
	b, err := commit.Encode(api.Commit{
		Epoch: p.epoch, Prev: s.commit, Volumes: volumes, Index: places,
		Bins: p.rising(), State: p.trie.Root(), Events: events,
	})
	if err != api.OK {
		return nil, false
	}
	p.commit, fits = p.lay(b)
	return p, fits
}

// layBlocks lays blocks as a new bin, if there are any.
func (p *plan) layBlocks(blocks map[api.Digest]api.Block) bool {
	if len(blocks) == 0 {
		return true
	}
	at, err := p.space.Take(len(blocks))
	if err != api.OK {
		return false
	}
	p.top++
	number := p.top
	var rising []api.Block
	var rows [][]byte
	for slot, finger := range slices.SortedFunc(maps.Keys(blocks), compare) {
		block := blocks[finger]
		rising = append(rising, block)
		rows = append(rows, block[:])
		p.index.Move(finger, api.Place{Bin: number, Slot: slot})
	}
	p.bins[number] = api.Bin{Number: number, At: at, Count: len(rising), Root: merkle.Root(rows)} // what bin.Write will tell
	p.writes = append(p.writes, func(d *disk.Disk) { bin.Write(d, number, at, rising) })
	return true
}

// lay lays bytes, and gives the Ref that they will have.
func (p *plan) lay(b []byte) (api.Ref, bool) {
	if len(b) > api.MaxBlob {
		return api.Ref{}, false
	}
	at, err := p.space.Take(blob.Sectors(len(b)))
	if err != api.OK {
		return api.Ref{}, false
	}
	p.writes = append(p.writes, func(d *disk.Disk) { blob.Write(d, at, b) })
	return blob.Of(at, b), true
}

// dropBins takes the bins out in which nothing stands that is used.
func (p *plan) dropBins() {
	used := live(p.index.Items())
	maps.DeleteFunc(p.bins, func(number int, _ api.Bin) bool { return used[number] == 0 })
}

// rising gives the bins, rising by their numbers.
func (p *plan) rising() []api.Bin {
	var bins []api.Bin
	for _, number := range slices.Sorted(maps.Keys(p.bins)) {
		bins = append(bins, p.bins[number])
	}
	return bins
}

// write writes what was laid; the slot tells of it only when all of it lasts.
func (p *plan) write(d *disk.Disk) {
	for _, write := range p.writes {
		write(d)
	}
	d.Sync()
	slots.Write(d, p.epoch, p.commit)
	d.Sync()
}

// release lets the sectors be free of what lasted before, and doesn't any more.
func (p *plan) release(last lasting) {
	for _, r := range last.passing {
		p.space.Release(r.At, blob.Sectors(r.Len))
	}
	for number, b := range last.bins {
		if _, kept := p.bins[number]; !kept {
			p.space.Release(b.At, b.Count)
		}
	}
}

// gathered gives the blocks that a Collect lays: the fresh ones, and those that are used of bins in which others aren't.
func (s *Store) gathered() (map[api.Digest]api.Block, api.Errno) {
	blocks := maps.Clone(s.fresh)
	items := s.index.Items()
	used := live(items)
	for _, item := range items {
		b, there := s.bins[item.Place.Bin]
		if !there || used[b.Number] >= b.Count {
			continue
		}
		block, err := bin.Read(s.disk, b, item.Place.Slot, item.Finger)
		if err != api.OK {
			return nil, s.tamper()
		}
		blocks[item.Finger] = block
	}
	return blocks, api.OK
}

// live tells by the bins' numbers how many items stand in each.
func live(items []api.Item) map[int]int {
	used := map[int]int{}
	for _, item := range items {
		used[item.Place.Bin]++
	}
	return used
}

// compare holds fingerprints against each other by their bytes.
func compare(a, b api.Digest) int { return bytes.Compare(a[:], b[:]) }
