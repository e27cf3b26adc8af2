package store

import (
	"sporran/api"
	"sporran/bin"
)

// answer does an operation; that it was done is told elsewhere.
func (s *Store) answer(o api.Op) api.Answer {
	switch o.Kind {
	case api.OpCreate:
		return api.Answer{Err: s.volumes.Create(o.Name, o.Quota)}
	case api.OpDelete:
		return api.Answer{Err: s.remove(o.Name)}
	case api.OpWrite:
		return api.Answer{Err: s.write(o)}
	case api.OpTrim:
		return api.Answer{Err: s.trim(o)}
	case api.OpRead:
		return s.read(o)
	case api.OpSnapshot:
		// Where there is no such volume the quota is 0, which may be: what is wrong is told as of any copy.
		return api.Answer{Err: s.copy(o, s.named(o.Name).Quota, true)}
	case api.OpClone:
		return api.Answer{Err: s.copy(o, o.Quota, false)}
	case api.OpList:
		return api.Answer{Names: s.names()}
	}
	return api.Answer{Err: api.ErrArg}
}

// remove takes a volume out.
func (s *Store) remove(name string) api.Errno {
	gone := s.named(name)
	for _, cell := range gone.Cells {
		s.free(cell.Finger)
	}
	return s.volumes.Delete(name)
}

// write lets a block be that one.
func (s *Store) write(o api.Op) api.Errno {
	finger := bin.Finger(o.Block)
	was, had, err := s.volumes.Put(o.Name, o.Number, finger)
	if err != api.OK {
		return err
	}
	if s.index.Hold(finger) {
		s.fresh[finger] = o.Block
	}
	if had { // behind the Hold: a block that is written again keeps its place
		s.free(was)
	}
	return api.OK
}

// trim lets a block be none.
func (s *Store) trim(o api.Op) api.Errno {
	was, had, err := s.volumes.Drop(o.Name, o.Number)
	if had {
		s.free(was)
	}
	return err
}

// read gives a block.
func (s *Store) read(o api.Op) api.Answer {
	finger, there, err := s.volumes.Get(o.Name, o.Number)
	if err != api.OK || !there {
		return api.Answer{Err: err}
	}
	block, fresh := s.fresh[finger]
	if !fresh {
		item, _ := s.index.Find(finger) // whatever it tells, the block that is read has that fingerprint, or there is an error
		block, err = bin.Read(s.disk, s.bins[item.Place.Bin], item.Place.Slot, finger)
	}
	if err != api.OK {
		return api.Answer{Err: s.tamper()}
	}
	return api.Answer{There: true, Block: block}
}

// copy makes a volume with the blocks of another one.
func (s *Store) copy(o api.Op, quota int, frozen bool) api.Errno {
	err := s.volumes.Copy(o.Name, o.Other, quota, frozen)
	if err != api.OK {
		return err
	}
	for _, cell := range s.named(o.Other).Cells {
		s.index.Hold(cell.Finger)
	}
	return api.OK
}

// free counts one use less of a block.
func (s *Store) free(finger api.Digest) {
	if gone, _ := s.index.Free(finger); gone {
		delete(s.fresh, finger)
	}
}

// named gives the volume of a name; if there is none, one without blocks.
func (s *Store) named(name string) api.Volume {
	for _, v := range s.volumes.All() {
		if v.Name == name {
			return v
		}
	}
	return api.Volume{}
}

// names gives the volumes' names, rising.
func (s *Store) names() []string {
	var names []string
	for _, v := range s.volumes.All() {
		names = append(names, v.Name)
	}
	return names
}
