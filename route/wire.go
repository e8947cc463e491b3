package route

import (
	"junctionbox/api"
	"junctionbox/prefix"
)

// fault is what leaves a reader by a panic: the error that is to be answered.
type fault api.Errno

// reader takes numbers and prefixes off what is still to come, or leaves.
type reader struct {
	rest  []byte
	wrong api.Errno // what bytes are behind which nobody can tell how they go on
}

// EncodeBatch: P11.4.
func EncodeBatch(b api.Batch) ([]byte, api.Errno) {
	if err := CheckBatch(b); err != api.OK {
		return nil, err
	}
	return laid(b.Updates, func(u api.Update) (api.Prefix, []byte) {
		return u.Prefix, []byte{byte(u.Source), flag(u.Gone), byte(u.Pref), byte(u.Hop)}
	}), api.OK
}

// DecodeBatch: P11.4.
func DecodeBatch(b []byte) (api.Batch, api.Errno) {
	l, err := taken(b, api.ErrBatch, (*reader).update)
	if err != api.OK {
		return api.Batch{}, err
	}
	out := api.Batch{Updates: l}
	if err := CheckBatch(out); err != api.OK {
		return api.Batch{}, err
	}
	return out, api.OK
}

// Encode: P11.4.
func Encode(r api.Rib) ([]byte, api.Errno) {
	if err := Check(r); err != api.OK {
		return nil, err
	}
	return laid(r.Routes, func(x api.Route) (api.Prefix, []byte) {
		return x.Prefix, []byte{byte(x.Source), byte(x.Pref), byte(x.Hop)}
	}), api.OK
}

// Decode: P11.4.
func Decode(b []byte) (api.Rib, api.Errno) {
	l, err := taken(b, api.ErrRib, (*reader).route)
	if err != api.OK {
		return api.Rib{}, err
	}
	out := api.Rib{Routes: l}
	if err := Check(out); err != api.OK {
		return api.Rib{}, err
	}
	return out, api.OK
}

// laid is how many there are, and of each its prefix's bytes and those behind them.
func laid[T any](l []T, parts func(x T) (api.Prefix, []byte)) []byte {
	out := []byte{byte(len(l))}
	for _, x := range l {
		p, behind := parts(x)
		b, _ := prefix.Encode(p)
		out = append(append(out, b...), behind...)
	}
	return out
}

// taken is what was laid as b, each by one; whether it may be is not asked here: an end that comes too early goes ahead of that.
func taken[T any](b []byte, wrong api.Errno, one func(r *reader) T) (out []T, err api.Errno) {
	defer func() {
		switch x := recover().(type) {
		case nil:
		case fault:
			out, err = nil, api.Errno(x)
		default:
			panic(x) // no fault of the bytes
		}
	}()
	r := &reader{rest: b, wrong: wrong}
	for range r.number() {
		out = append(out, one(r))
	}
	r.end()
	return out, api.OK
}

func (r *reader) update() api.Update {
	return api.Update{Prefix: r.prefix(), Source: r.number(), Gone: r.flag(), Pref: r.number(), Hop: r.number()}
}

func (r *reader) route() api.Route {
	return api.Route{Prefix: r.prefix(), Source: r.number(), Pref: r.number(), Hop: r.number()}
}

func (r *reader) prefix() api.Prefix {
	p, size, err := prefix.Decode(r.rest)
	switch err {
	case api.OK:
	case api.ErrShort:
		panic(fault(api.ErrShort))
	default:
		panic(fault(r.wrong))
	}
	r.rest = r.rest[size:]
	return p
}

func (r *reader) flag() bool {
	x := r.number()
	if x > 1 {
		panic(fault(r.wrong))
	}
	return x == 1
}

func (r *reader) number() int {
	if len(r.rest) == 0 {
		panic(fault(api.ErrShort))
	}
	x := r.rest[0]
	r.rest = r.rest[1:]
	return int(x)
}

// end leaves, if it is not the end.
func (r *reader) end() {
	if len(r.rest) > 0 {
		panic(fault(r.wrong))
	}
}

// flag is a truth as a byte.
func flag(yes bool) byte {
	if yes {
		return 1
	}
	return 0
}
