package store

import (
	"sporran/api"
	"sporran/blob"
	"sporran/cell"
	"sporran/commit"
	"sporran/disk"
	"sporran/index"
	"sporran/slots"
	"sporran/space"
	"sporran/trie"
	"sporran/volume"
)

// link is one of the commits that hang on one another.
type link struct {
	ref    api.Ref
	bytes  []byte
	commit api.Commit
}

// Mount gives the store of a disk, and a cell.
func Mount(d *disk.Disk, c *cell.Cell) (*Store, api.Errno) {
	if d.Len() <= slots.First {
		return nil, api.ErrRange
	}
	s := empty(d, c)
	counter, root := c.Get()
	if counter == 0 && root == (api.Digest{}) {
		return s, api.OK
	}
	if counter == 0 || !s.load(counter, root) {
		return nil, api.ErrTampered
	}
	return s, api.OK
}

// empty gives the store of a disk on which nothing lasts yet.
func empty(d *disk.Disk, c *cell.Cell) *Store {
	room, _ := space.New(d.Len(), slots.First)
	return &Store{
		lasting: lasting{trie: trie.New(), bins: map[int]api.Bin{}, top: -1, space: room},
		disk:    d,
		cell:    c,
		volumes: volume.New(),
		index:   index.New(),
		fresh:   map[api.Digest]api.Block{},
	}
}

// load lets an empty store have all that hangs on a cell's root, and tells whether the disk has it.
func (s *Store) load(epoch uint64, root api.Digest) bool {
	ref, err := slots.Find(s.disk, root)
	if err != api.OK {
		return false
	}
	s.epoch, s.commit = epoch, ref
	links, whole := s.chain()
	return whole && s.adopt(links[0].commit) && s.mark(links)
}

// chain gives all commits, the last one first, and tells whether the disk has them.
func (s *Store) chain() ([]link, bool) {
	var links []link
	ref := s.commit
	for epoch := s.epoch; epoch > 0; epoch-- {
		b, err := blob.Read(s.disk, ref)
		if err != api.OK {
			return nil, false
		}
		c, err := commit.Decode(b)
		if err != api.OK || c.Epoch != epoch {
			return nil, false
		}
		links = append(links, link{ref: ref, bytes: b, commit: c})
		ref = c.Prev
	}
	return links, ref == api.Ref{} // ahead of epoch 1 there is none
}

// adopt lets the store have what a commit tells, and tells whether the disk has that.
func (s *Store) adopt(c api.Commit) bool {
	volumes, there := decoded(s.disk, c.Volumes, volume.Decode)
	if !there {
		return false
	}
	x, there := decoded(s.disk, c.Index, index.Decode)
	if !there {
		return false
	}
	s.volumes, s.index, s.trie = volumes, x, volumes.Trie()
	s.passing = []api.Ref{c.Volumes, c.Index}
	for _, b := range c.Bins {
		s.bins[b.Number] = b
		s.top = b.Number // they rise
	}
	return s.trie.Root() == c.State
}

// mark lets the sectors be taken of all that lasts, and tells whether there are all of them.
func (s *Store) mark(links []link) bool {
	for _, l := range links {
		s.space.Mark(l.ref.At, blob.Sectors(l.ref.Len)) // what was read is there
	}
	for _, r := range s.passing {
		s.space.Mark(r.At, blob.Sectors(r.Len))
	}
	for _, b := range s.bins {
		if s.space.Mark(b.At, b.Count) != api.OK {
			return false
		}
	}
	return true
}

// decoded gives what bytes on the disk tell, if they are there.
func decoded[T any](d *disk.Disk, r api.Ref, decode func([]byte) (T, api.Errno)) (T, bool) {
	b, err := blob.Read(d, r)
	if err != api.OK {
		var none T
		return none, false
	}
	told, err := decode(b)
	return told, err == api.OK
}
