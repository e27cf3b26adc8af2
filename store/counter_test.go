package store

import (
	"math"
	"testing"

	"sporran/api"
	"sporran/cell"
	"sporran/disk"
)

// P16.1: with the last epoch there is no next one. Nobody flushes so often: the epoch is set by hand.
func TestLastEpoch(t *testing.T) {
	d, _ := disk.New(3) // ErrCounter goes ahead of ErrSpace
	s, _ := Mount(d, cell.New(0, api.Digest{}))
	s.epoch = math.MaxUint64
	if err := s.Flush(); err != api.OK { // there are no events
		t.Errorf("Flush: %v", err)
	}
	s.Do(api.Op{Kind: api.OpCreate, Name: "a"})
	for range 2 {
		if err := s.Flush(); err != api.ErrCounter {
			t.Errorf("Flush: %v", err)
		}
		if err := s.Collect(); err != api.ErrCounter {
			t.Errorf("Collect: %v", err)
		}
	}
	if names := s.Do(api.Op{Kind: api.OpList}).Names; len(names) != 1 || len(s.events) != 1 || s.Room() != 1 {
		t.Errorf("changed: %v, %d events, %d sectors", names, len(s.events), s.Room())
	}
}

// P16.1: a cell that can't go on has nothing new behind it.
func TestLastCounter(t *testing.T) {
	d, _ := disk.New(30)
	c := cell.New(0, api.Digest{})
	s, _ := Mount(d, c)
	s.Do(api.Op{Kind: api.OpCreate, Name: "a"})
	s.cell = cell.New(math.MaxUint64, api.Digest{})
	if err := s.Flush(); err != api.ErrCounter || s.Room() != 28 || s.epoch != 0 {
		t.Errorf("Flush: %v", err)
	}
	s.cell = c
	if err := s.Flush(); err != api.OK || s.epoch != 1 {
		t.Errorf("Flush: %v", err)
	}
}
