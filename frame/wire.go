package frame

import (
	"slices"

	"junctionbox/api"
	"junctionbox/octet"
	"junctionbox/route"
	"junctionbox/sum"
)

// Encode: P15.2.
func Encode(m api.Msg) ([]byte, api.Errno) {
	if err := Check(m); err != api.OK {
		return nil, err
	}
	head := octet.Put64([]byte{byte(m.Kind), byte(m.From), byte(m.To)}, m.Epoch)
	return sum.Seal32(append(head, body(m)...)), api.OK
}

// Decode: P15.2.
func Decode(b []byte) (api.Msg, api.Errno) {
	b, err := sum.Open32(b)
	switch err {
	case api.OK:
	case api.ErrShort:
		return api.Msg{}, api.ErrShort
	default:
		return api.Msg{}, api.ErrFrame
	}
	r := &reader{Reader: octet.Read(b)}
	m := r.msg()
	if !r.whole() || Check(m) != api.OK {
		return api.Msg{}, api.ErrFrame
	}
	return m, api.OK
}

// body is the bytes of what the Kind has, of a message that may be.
func body(m api.Msg) []byte {
	switch m.Kind {
	case api.MsgOffer:
		b := octet.Put64(place(m.Prev), m.Done)
		return slices.Concat(b, []byte{byte(len(m.Entries))}, each(m.Entries, entry))
	case api.MsgHave:
		return octet.Put64([]byte{flag(m.Ok)}, m.Index)
	case api.MsgState:
		r, _ := route.Encode(m.Base.Rib)
		b := octet.Put64(place(m.Base.At), m.Done)
		return slices.Concat(b, each(m.Base.Last[1:], last), sized(r))
	case api.MsgAsk, api.MsgGrant:
		return octet.Put64(nil, m.Stamp)
	case api.MsgSubmit:
		b, _ := route.EncodeBatch(m.Batch)
		return append(octet.Put32(nil, m.Seq), b...)
	case api.MsgReply:
		return octet.Put64(octet.Put16(octet.Put32(nil, m.Seq), uint16(m.Err)), m.Index)
	}
	return nil
}

// each is the bytes of a list, one behind the other.
func each[T any](l []T, one func(x T) []byte) []byte {
	var out []byte
	for _, x := range l {
		out = append(out, one(x)...)
	}
	return out
}

func place(at api.At) []byte {
	return octet.Put64(octet.Put64(nil, at.Index), at.Epoch)
}

func entry(e api.Entry) []byte {
	head := append(octet.Put64(nil, e.Epoch), byte(e.Client))
	b, _ := route.EncodeBatch(e.Batch)
	return append(octet.Put32(head, e.Seq), sized(b)...)
}

func last(x api.Last) []byte {
	return octet.Put64(octet.Put32(nil, x.Seq), x.Index)
}

// sized is how many bytes there are, and these.
func sized(b []byte) []byte {
	return append(octet.Put16(nil, uint16(len(b))), b...)
}

func flag(yes bool) byte {
	if yes {
		return 1
	}
	return 0
}

// reader takes a message off a wire. What comes whole and is no bytes of anything is told as wrong; whether it may be is asked of the message.
type reader struct {
	*octet.Reader
	wrong bool
}

// whole is whether all came, nothing of it wrong, and nothing is left.
func (r *reader) whole() bool {
	return r.Err() == api.OK && r.Left() == 0 && !r.wrong
}

func (r *reader) msg() api.Msg {
	m := api.Msg{Kind: int(r.U8()), From: int(r.U8()), To: int(r.U8()), Epoch: r.U64()}
	r.body(m.Kind)(&m)
	return m
}

// body is how what a Kind has is read.
func (r *reader) body(kind int) func(m *api.Msg) {
	switch kind {
	case api.MsgOffer:
		return func(m *api.Msg) {
			m.Prev, m.Done, m.Entries = r.place(), r.U64(), r.entries()
		}
	case api.MsgHave:
		return func(m *api.Msg) {
			m.Ok, m.Index = r.flag(), r.U64()
		}
	case api.MsgState:
		return func(m *api.Msg) {
			m.Base.At, m.Done = r.place(), r.U64()
			m.Base.Last, m.Base.Rib = r.last(), decoded(r, int(r.U16()), route.Decode)
		}
	case api.MsgAsk, api.MsgGrant:
		return func(m *api.Msg) {
			m.Stamp = r.U64()
		}
	case api.MsgSubmit:
		return func(m *api.Msg) {
			m.Seq, m.Batch = r.U32(), decoded(r, r.Left(), route.DecodeBatch)
		}
	case api.MsgReply:
		return func(m *api.Msg) {
			m.Seq, m.Err, m.Index = r.U32(), api.Errno(r.U16()), r.U64()
		}
	}
	return func(*api.Msg) {} // no Kind: it is refused as no message
}

func (r *reader) place() api.At {
	return api.At{Index: r.U64(), Epoch: r.U64()}
}

func (r *reader) entries() []api.Entry {
	var l []api.Entry
	for range r.U8() {
		e := api.Entry{Epoch: r.U64(), Client: int(r.U8()), Seq: r.U32()}
		e.Batch = decoded(r, int(r.U16()), route.DecodeBatch)
		l = append(l, e)
	}
	return l
}

// last is each client's last entry; at the place 0 there is nobody.
func (r *reader) last() [api.MaxClients + 1]api.Last {
	var l [api.MaxClients + 1]api.Last
	for i := range l[1:] {
		l[1+i] = api.Last{Seq: r.U32(), Index: r.U64()}
	}
	return l
}

func (r *reader) flag() bool {
	x := r.U8()
	if x > 1 {
		r.wrong = true
	}
	return x == 1
}

// decoded takes off so many bytes, which another layer has laid.
func decoded[T any](r *reader, size int, by func(b []byte) (T, api.Errno)) T {
	x, err := by(r.Raw(size))
	if err != api.OK {
		r.wrong = true
	}
	return x
}
