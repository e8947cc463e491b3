package table

import (
	"junctionbox/api"
	"junctionbox/prefix"
)

// Encode: P9.4.
func Encode(t api.Table) ([]byte, api.Errno) {
	if err := Check(t); err != api.OK {
		return nil, err
	}
	out := []byte{byte(len(t.Rows))}
	for _, r := range t.Rows {
		p, _ := prefix.Encode(r.Prefix)
		out = append(append(out, p...), byte(r.Hop))
	}
	return out, api.OK
}

// Decode: P9.4.
func Decode(b []byte) (api.Table, api.Errno) {
	if len(b) == 0 {
		return api.Table{}, api.ErrShort
	}
	var t api.Table
	count, rest := b[0], b[1:]
	for range count {
		r, size, err := first(rest)
		if err != api.OK {
			return api.Table{}, err
		}
		t.Rows, rest = append(t.Rows, r), rest[size:]
	}
	// What else is wrong is asked at the end: an end that comes too early goes ahead of it.
	if len(rest) > 0 || Check(t) != api.OK {
		return api.Table{}, api.ErrTable
	}
	return t, api.OK
}

// first is the row with whose bytes b begins, and how many these are. Of a prefix that is wrong nobody can tell where it ends.
func first(b []byte) (api.Row, int, api.Errno) {
	p, size, err := prefix.Decode(b)
	switch {
	case err == api.ErrPrefix:
		return api.Row{}, 0, api.ErrTable
	case err != api.OK || size == len(b):
		return api.Row{}, 0, api.ErrShort
	}
	return api.Row{Prefix: p, Hop: int(b[size])}, size + 1, api.OK
}
