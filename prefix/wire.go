package prefix

import (
	"junctionbox/api"
	"junctionbox/octet"
)

// longest is how many bytes a prefix takes at most.
const longest = 1 + 1 + 16

// reader takes an address or a prefix off a wire; a byte that may not stand where it does is told as its fault.
type reader struct {
	*octet.Reader
	given int
	fault api.Errno
	wrong bool
}

// EncodeAddr: P5.4.
func EncodeAddr(a api.Addr) ([]byte, api.Errno) {
	if err := CheckAddr(a); err != api.OK {
		return nil, err
	}
	return laid(a.Bytes, Width(a.Version), a.Version), api.OK
}

// DecodeAddr: P5.4.
func DecodeAddr(b []byte) (api.Addr, int, api.Errno) {
	r := read(b, api.ErrAddr)
	version := r.version()
	a := r.addr(version, Width(version))
	if err := r.Err(); err != api.OK {
		return api.Addr{}, 0, err
	}
	return a, r.taken(), api.OK
}

// Encode: P5.4.
func Encode(p api.Prefix) ([]byte, api.Errno) {
	if err := Check(p); err != api.OK {
		return nil, err
	}
	return laid(p.Addr.Bytes, p.Bits, p.Addr.Version, p.Bits), api.OK
}

// Decode: P5.4.
func Decode(b []byte) (api.Prefix, int, api.Errno) {
	r := read(b, api.ErrPrefix)
	version := r.version()
	bits := r.bits(Width(version))
	p := api.Prefix{Addr: r.addr(version, bits), Bits: bits}
	if err := r.Err(); err != api.OK {
		return api.Prefix{}, 0, err
	}
	return p, r.taken(), api.OK
}

// laid is the numbers of a head, a byte each, and the bytes that so many bits fill.
func laid(b [16]byte, bits int, head ...int) []byte {
	var out []byte
	for _, x := range head {
		out = append(out, byte(x))
	}
	return append(out, b[:filled(bits)]...)
}

// read has a wire of no more than a prefix may take: what comes behind it may be long, and is not asked for.
func read(b []byte, fault api.Errno) *reader {
	b = b[:min(len(b), longest)]
	return &reader{Reader: octet.Read(b), given: len(b), fault: fault}
}

// Err is what was met first: a wrong byte is not met any more behind the end.
func (r *reader) Err() api.Errno {
	if r.wrong {
		return r.fault
	}
	return r.Reader.Err()
}

// refuse tells that the bytes taken last are wrong, if they came at all.
func (r *reader) refuse() {
	if r.Reader.Err() == api.OK {
		r.wrong = true
	}
}

// taken is how many bytes were taken off.
func (r *reader) taken() int {
	return r.given - r.Left()
}

func (r *reader) version() int {
	version := int(r.U8())
	if Width(version) == 0 {
		r.refuse()
	}
	return version
}

func (r *reader) bits(width int) int {
	bits := int(r.U8())
	if !within(bits, width) {
		r.refuse()
	}
	return bits
}

// addr takes the bytes that so many bits of an address fill.
func (r *reader) addr(version, bits int) api.Addr {
	a := api.Addr{Version: version}
	copy(a.Bytes[:], r.Raw(filled(bits)))
	if kept(a.Bytes, bits) != a.Bytes {
		r.refuse()
	}
	return a
}
