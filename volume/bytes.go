package volume

import (
	"sporran/api"
	"sporran/pack"
)

// mostMark is the greatest number that tells a quota and whether the volume is frozen.
const mostMark = 2*api.MaxBlocks + 1

// Encode gives the volumes as bytes.
func (s *Set) Encode() []byte {
	all := s.All()
	out := pack.Number(nil, uint64(len(all)))
	for _, v := range all {
		out = pack.Bytes(out, []byte(v.Name))
		out = pack.Number(out, mark(v))
		out = pack.Number(out, uint64(len(v.Cells)))
		for _, cell := range v.Cells {
			out = pack.Number(out, uint64(cell.Number))
			out = append(out, cell.Finger[:]...)
		}
	}
	return out
}

// Decode gives the volumes of bytes.
func Decode(b []byte) (*Set, api.Errno) {
	in := pack.From(b)
	s := New()
	last := ""                            // no name is empty: the first one rises, too
	for range in.Number(uint64(len(b))) { // no more volumes than bytes: each has some
		name := string(in.Bytes(api.MaxName))
		v, taken := take(in)
		if !taken || !mayName(name) || name <= last {
			return nil, api.ErrForm
		}
		s.volumes[name] = v
		last = name
	}
	if in.Done() != api.OK {
		return nil, api.ErrForm
	}
	return s, api.OK
}

// take takes what Encode puts behind a volume's name, if that is next.
func take(in *pack.In) (*volume, bool) {
	told := in.Number(mostMark)
	v := &volume{quota: int(told / 2), frozen: told%2 == 1, blocks: map[int]api.Digest{}}
	last := -1
	for range in.Number(uint64(v.quota)) { // no more blocks than the quota
		number, finger := int(in.Number(api.MaxBlocks-1)), in.Digest()
		if in.Wrong() || number <= last {
			return nil, false
		}
		v.blocks[number] = finger
		last = number
	}
	return v, !in.Wrong()
}

// mark gives the number that tells a volume's quota, and whether it is frozen.
func mark(v api.Volume) uint64 {
	if v.Frozen {
		return 2*uint64(v.Quota) + 1
	}
	return 2 * uint64(v.Quota)
}
