package commit

import (
	"sporran/api"
	"sporran/pack"
)

// putRows puts how many rows there are, and they, behind others; it ends where there is no room any more.
func putRows[T any](out []byte, rows []T, put func([]byte, T) []byte) []byte {
	out = pack.Number(out, uint64(len(rows)))
	for _, row := range rows {
		if len(out) > api.MaxBlob {
			break
		}
		out = append(out, put(nil, row)...)
	}
	return out
}

// takeRows takes what putRows puts.
func takeRows[T any](in *pack.In, take func(*pack.In) T) []T {
	var rows []T
	for range in.Number(api.MaxBlob) { // no more rows than bytes: each has some
		row := take(in)
		if in.Wrong() {
			return nil
		}
		rows = append(rows, row)
	}
	return rows
}

// comeBack tells whether all these rows are taken as they are put.
func comeBack[T comparable](put func([]byte, T) []byte, take func(*pack.In) T, rows ...T) bool {
	for _, row := range rows {
		if take(pack.From(put(nil, row))) != row { // what goes wrong is taken as the zero one, which itself goes right
			return false
		}
	}
	return true
}
