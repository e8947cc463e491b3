package rib

import (
	"slices"

	"junctionbox/api"
	"junctionbox/octet"
	"junctionbox/route"
	"junctionbox/wal"
)

// The kinds of transactions.
const (
	kindVow = 1
	kindPut = 2
)

// log is the log that a journal embeds, without the log's own calls: those would be the journal's, too, and whoever has a journal could write beside it.
type log wal.Wal

func (l *log) wal() *wal.Wal {
	return (*wal.Wal)(l)
}

// fits is whether there is room for a transaction.
func (l *log) fits(transaction []byte) bool {
	return wal.Sectors(len(transaction)) <= l.wal().Left()
}

// recall is what lasts; false, if that is no journal's.
func (l *log) recall() (holding, bool) {
	h, ok := holdingOf(l.wal().Snapshot())
	if !ok {
		return holding{}, false
	}
	for _, b := range l.wal().All() {
		c, ok := h.changeOf(b)
		if !ok {
			return holding{}, false
		}
		c(&h)
	}
	return h, true
}

func vowBytes(epoch uint64) []byte {
	return octet.Put64([]byte{kindVow}, epoch)
}

func putBytes(index uint64, l []api.Entry) []byte {
	return append(octet.Put64([]byte{kindPut}, index), entriesBytes(l)...)
}

// bytes is the snapshot.
func (h holding) bytes() []byte {
	b := octet.Put64(nil, h.vow)
	b = octet.Put64(octet.Put64(b, h.base.At.Index), h.base.At.Epoch)
	for _, x := range h.base.Last[1:] {
		b = octet.Put64(octet.Put32(b, x.Seq), x.Index)
	}
	r, _ := route.Encode(h.base.Rib)
	return slices.Concat(b, sized(r), entriesBytes(h.entries))
}

// entriesBytes is how many there are, and these.
func entriesBytes(l []api.Entry) []byte {
	out := []byte{byte(len(l))}
	for _, e := range l {
		head := append(octet.Put64(nil, e.Epoch), byte(e.Client))
		b, _ := route.EncodeBatch(e.Batch)
		out = slices.Concat(out, octet.Put32(head, e.Seq), sized(b))
	}
	return out
}

// sized is how many bytes there are, and these.
func sized(b []byte) []byte {
	return append(octet.Put16(nil, uint16(len(b))), b...)
}

// holdingOf is what a snapshot says; false, if that may not be.
func holdingOf(b []byte) (holding, bool) {
	r := &reader{Reader: octet.Read(b)}
	h := holding{vow: r.U64(), base: r.base()}
	l := r.entries()
	if !r.whole() || h.vow > api.MaxEpoch || !h.mayHave(h.base) || h.refuses(h.base.At.Index+1, l) != api.OK {
		return holding{}, false
	}
	h.entries = l
	return h, true
}

// changeOf is the change that a transaction tells; false, if that can't be made of what there is.
func (h holding) changeOf(b []byte) (change, bool) {
	r := &reader{Reader: octet.Read(b)}
	switch r.U8() {
	case kindVow:
		epoch := r.U64()
		return toVow(epoch), r.whole() && epoch > h.vow && epoch <= api.MaxEpoch
	case kindPut:
		index, l := r.U64(), r.entries()
		return toPut(index, l), r.whole() && h.refuses(index, l) == api.OK
	}
	return nil, false
}

// reader takes what lasts off a wire; what comes whole, and is nothing that may be, is told as wrong.
type reader struct {
	*octet.Reader
	wrong bool
}

// whole is whether all came, nothing of it wrong, and nothing is left.
func (r *reader) whole() bool {
	return r.Err() == api.OK && r.Left() == 0 && !r.wrong
}

func (r *reader) base() api.Base {
	b := api.Base{At: api.At{Index: r.U64(), Epoch: r.U64()}}
	for i := range b.Last[1:] {
		b.Last[1+i] = api.Last{Seq: r.U32(), Index: r.U64()}
	}
	b.Rib = decoded(r, route.Decode)
	return b
}

func (r *reader) entries() []api.Entry {
	var l []api.Entry
	for range r.U8() {
		e := api.Entry{Epoch: r.U64(), Client: int(r.U8()), Seq: r.U32()}
		e.Batch = decoded(r, route.DecodeBatch)
		l = append(l, e)
	}
	return l
}

// decoded takes off how many bytes there are, and these, which another layer has laid.
func decoded[T any](r *reader, by func(b []byte) (T, api.Errno)) T {
	x, err := by(r.Raw(int(r.U16())))
	if err != api.OK {
		r.wrong = true
	}
	return x
}
