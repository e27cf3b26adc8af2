package world

import (
	"sort"

	"sporran/api"
)

// images are those of a disk, in the order in which they came. Most events change few sectors, or none: of each sector is kept what it became alone.
type images struct {
	count   int
	changes [][]change // of each sector, in order; ahead of the first one it was 0
}

// change is what a sector became.
type change struct {
	first  int // the image from which on it was so
	sector api.Sector
}

// noImages is none yet, of a disk of so many sectors.
func noImages(sectors int) *images { return &images{changes: make([][]change, sectors)} }

// add puts an image behind the others.
func (m *images) add(image []api.Sector) {
	for at, s := range image {
		if s != m.sector(at, m.count) {
			m.changes[at] = append(m.changes[at], change{m.count, s})
		}
	}
	m.count++
}

// image gives the one at a place.
func (m *images) image(place int) []api.Sector {
	image := make([]api.Sector, len(m.changes))
	for at := range image {
		image[at] = m.sector(at, place)
	}
	return image
}

// sector gives what a sector was in the image at a place.
func (m *images) sector(at, place int) api.Sector {
	changes := m.changes[at]
	later := sort.Search(len(changes), func(i int) bool { return changes[i].first > place })
	if later == 0 {
		return api.Sector{}
	}
	return changes[later-1].sector
}
