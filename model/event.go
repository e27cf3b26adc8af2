package model

import (
	"sporran/api"
	"sporran/pack"
)

// Changes tells whether an operation of that kind may change something.
func Changes(kind int) bool {
	switch kind {
	case api.OpCreate, api.OpDelete, api.OpWrite, api.OpTrim, api.OpSnapshot, api.OpClone:
		return true
	}
	return false
}

// Event gives an operation as bytes, as it is told by the commit behind it.
func Event(o api.Op) []byte {
	var out []byte
	for _, n := range [...]int{o.Kind, o.Number, o.Quota} {
		out = pack.Number(out, uint64(n))
	}
	for _, name := range [...]string{o.Name, o.Other} {
		out = pack.Bytes(out, []byte(name))
	}
	if o.Kind == api.OpWrite {
		out = append(out, o.Block[:]...)
	}
	return out
}
