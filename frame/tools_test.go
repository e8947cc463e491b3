package frame_test

import (
	"bytes"
	"fmt"
	"math"
	"slices"
	"testing"

	"junctionbox/api"
	"junctionbox/frame"
	"junctionbox/route"
)

// most is MaxEpoch, as the chapter's words have it.
const most = 1 << 62

// prefixOf is a prefix of so many bits; bytes of the address that are not told are noughts.
func prefixOf(version, bits int, b ...byte) api.Prefix {
	p := api.Prefix{Addr: api.Addr{Version: version}, Bits: bits}
	copy(p.Addr.Bytes[:], b)
	return p
}

// pfx is 10.0.0.0/8; long is the n-th of a row of prefixes that rise and have all bits that there are.
func pfx() api.Prefix {
	return prefixOf(4, 8, 10)
}

func long(n int) api.Prefix {
	return prefixOf(6, 128, append(bytes.Repeat([]byte{0xfe}, 15), byte(n))...)
}

// put is an update that tells a candidate, gone one that withdraws it.
func put(p api.Prefix, source, pref, hop int) api.Update {
	return api.Update{Prefix: p, Source: source, Pref: pref, Hop: hop}
}

func gone(p api.Prefix, source int) api.Update {
	return api.Update{Prefix: p, Source: source, Gone: true}
}

func batch(l ...api.Update) api.Batch {
	return api.Batch{Updates: l}
}

// small is a batch of one update, great one that takes as many bytes as a batch may.
func small() api.Batch {
	return batch(put(pfx(), 2, 5, 7))
}

func great() api.Batch {
	var b api.Batch
	for i := range 8 {
		b.Updates = append(b.Updates, put(long(i), 1+i%4, 255-i, 255))
	}
	return b
}

// ribOf is candidates of so many prefixes, each by so many sources.
func ribOf(prefixes, sources int) api.Rib {
	var r api.Rib
	for i := range prefixes {
		for source := 1; source <= sources; source++ {
			r.Routes = append(r.Routes, api.Route{Prefix: long(i), Source: source, Pref: 7 * i % 256, Hop: 1 + (3*i+source)%255})
		}
	}
	return r
}

func at(index, epoch uint64) api.At {
	return api.At{Index: index, Epoch: epoch}
}

func entry(epoch uint64, client int, seq uint32, b api.Batch) api.Entry {
	return api.Entry{Epoch: epoch, Client: client, Seq: seq, Batch: b}
}

// lasts is the last entries of both clients.
func lasts(one, two api.Last) [3]api.Last {
	return [3]api.Last{{}, one, two}
}

func last(seq uint32, index uint64) api.Last {
	return api.Last{Seq: seq, Index: index}
}

// These are messages from 1 to 2 of the epoch 9, and between the first client and server 2.
func offer(prev api.At, done uint64, l ...api.Entry) api.Msg {
	return api.Msg{Kind: 1, From: 1, To: 2, Epoch: 9, Prev: prev, Entries: l, Done: done}
}

func have(ok bool, index uint64) api.Msg {
	return api.Msg{Kind: 2, From: 1, To: 2, Epoch: 9, Ok: ok, Index: index}
}

func state(at api.At, done uint64, l [3]api.Last, r api.Rib) api.Msg {
	return api.Msg{Kind: 3, From: 1, To: 2, Epoch: 9, Base: api.Base{At: at, Last: l, Rib: r}, Done: done}
}

func ask(stamp uint64) api.Msg {
	return api.Msg{Kind: 4, From: 1, To: 2, Epoch: 9, Stamp: stamp}
}

func grant(stamp uint64) api.Msg {
	return api.Msg{Kind: 5, From: 1, To: 2, Epoch: 9, Stamp: stamp}
}

func submit(seq uint32, b api.Batch) api.Msg {
	return api.Msg{Kind: 6, From: 3, To: 2, Seq: seq, Batch: b}
}

func reply(seq uint32, err api.Errno, index uint64) api.Msg {
	return api.Msg{Kind: 7, From: 2, To: 3, Seq: seq, Err: err, Index: index}
}

// between is a message from another node to another one.
func between(m api.Msg, from, to int) api.Msg {
	m.From, m.To = from, to
	return m
}

// in is a message of another epoch.
func in(m api.Msg, epoch uint64) api.Msg {
	m.Epoch = epoch
	return m
}

// ofKind is the same message as one of another Kind.
func ofKind(m api.Msg, kind int) api.Msg {
	m.Kind = kind
	return m
}

// eight is as many entries as an offer may have.
func eight(epoch uint64, b api.Batch) []api.Entry {
	var l []api.Entry
	for i := range 8 {
		l = append(l, entry(epoch, 1+i%2, uint32(i+1), b))
	}
	return l
}

// plain is one of each Kind, by its number.
func plain() []api.Msg {
	return []api.Msg{1: offer(at(3, 2), 2, entry(3, 1, 4, small()), entry(5, 2, 1, batch(gone(pfx(), 1)))),
		2: have(true, 6), 3: state(at(5, 4), 3, lasts(last(7, 5), last(0, 0)), ribOf(2, 2)),
		4: ask(8), 5: grant(8), 6: submit(4, small()), 7: reply(4, 221, 0)}
}

// rights are messages that may be, no two alike: of each Kind plain ones, and those at the edges that the chapter names.
func rights() []api.Msg {
	none := lasts(last(0, 0), last(0, 0))
	full := lasts(last(math.MaxUint32, most), last(1, most))
	l := plain()[1:]
	l = append(l,
		offer(at(0, 0), 0), offer(at(0, 0), most), offer(at(1, 9), 0), offer(at(most, 1), 1), in(offer(at(most, most), 1), most), in(offer(at(1, 1), 0), 1),
		offer(at(0, 0), 0, entry(1, 1, 1, small())), offer(at(0, 0), 0, entry(9, 2, math.MaxUint32, great())), offer(at(2, 9), 0, entry(9, 1, 1, small())),
		offer(at(4, 3), 0, entry(3, 1, 1, small()), entry(3, 1, 1, small()), entry(9, 2, 9, small())), offer(at(4, 3), 7, entry(4, 2, 9, small()), entry(5, 2, 1, small())),
		offer(at(4, 4), 2, eight(4, small())...), in(offer(at(most, most), most, eight(most, great())...), most), in(offer(at(0, 0), 0, eight(1, great())...), 1),
		have(false, 0), have(true, 0), have(false, 6), have(true, most), in(have(true, 1), 1), in(have(true, 1), most),
		state(at(0, 0), 0, none, api.Rib{}), state(at(0, 0), most, none, ribOf(1, 1)), state(at(1, 9), 0, none, api.Rib{}), state(at(1, 1), 0, lasts(last(1, 1), last(0, 0)), api.Rib{}),
		state(at(1, 1), 0, lasts(last(1, 1), last(1, 1)), api.Rib{}), state(at(5, 9), 0, lasts(last(0, 0), last(9, 4)), ribOf(3, 1)),
		in(state(at(most, most), most, full, ribOf(40, 4)), most), state(at(6, 9), 2, lasts(last(2, 3), last(4, 6)), ribOf(40, 1)),
		ask(0), ask(1), ask(most), in(ask(8), 1), in(ask(8), most), grant(0), grant(1), grant(most), in(grant(8), 1), in(grant(8), most),
		submit(1, small()), submit(math.MaxUint32, small()), submit(4, great()), submit(4, batch(gone(pfx(), 1))), submit(4, batch(put(pfx(), 1, 0, 1), gone(pfx(), 2))),
		reply(1, 0, 0), reply(1, 0, 5), reply(math.MaxUint32, 65535, most), reply(4, 270, 0), reply(4, 270, 1), reply(4, 1, 0), reply(4, 256, 0))
	for _, m := range plain()[1:6] {
		l = append(l, between(m, 2, 1))
	}
	for _, p := range [][2]int{{3, 1}, {4, 1}, {4, 2}} {
		l = append(l, between(submit(4, small()), p[0], p[1]), between(reply(4, 221, 0), p[1], p[0]))
	}
	return l
}

// ends is whether a message goes from whom and to whom its Kind does.
func ends(m api.Msg) bool {
	server, client := []int{1, 2}, []int{3, 4}
	switch m.Kind {
	case 1, 2, 3, 4, 5:
		return m.From+m.To == 3 && slices.Contains(server, m.From)
	case 6:
		return slices.Contains(client, m.From) && slices.Contains(server, m.To)
	case 7:
		return slices.Contains(server, m.From) && slices.Contains(client, m.To)
	}
	return false
}

// set changes one field of a message to something that is not zero and not what plain messages have; sets are all of them, by their names.
type set struct {
	name  string
	kinds []int
	do    func(m *api.Msg)
}

func sets() []set {
	return []set{
		{"Prev.Index", []int{1}, func(m *api.Msg) { m.Prev.Index += 11 }},
		{"Prev.Epoch", []int{1}, func(m *api.Msg) { m.Prev.Epoch++ }},
		{"Entries", []int{1}, func(m *api.Msg) { m.Entries = append(slices.Clone(m.Entries), entry(9, 1, 1, small())) }},
		{"Done", []int{1, 3}, func(m *api.Msg) { m.Done++ }},
		{"Ok", []int{2}, func(m *api.Msg) { m.Ok = !m.Ok }},
		{"Index", []int{2, 7}, func(m *api.Msg) { m.Index++ }},
		{"Stamp", []int{4, 5}, func(m *api.Msg) { m.Stamp++ }},
		{"Base.At.Index", []int{3}, func(m *api.Msg) { m.Base.At.Index += 11 }},
		{"Base.At.Epoch", []int{3}, func(m *api.Msg) { m.Base.At.Epoch++ }},
		{"Base.Rib", []int{3}, func(m *api.Msg) {
			m.Base.Rib.Routes = append(slices.Clone(m.Base.Rib.Routes), api.Route{Prefix: long(90), Source: 1, Hop: 1})
		}},
		{"Base.Last[0].Seq", nil, func(m *api.Msg) { m.Base.Last[0].Seq++ }},
		{"Base.Last[0].Index", nil, func(m *api.Msg) { m.Base.Last[0].Index++ }},
		{"Base.Last[0]", nil, func(m *api.Msg) { m.Base.Last[0] = last(1, 1) }},
		{"Base.Last[1]", []int{3}, func(m *api.Msg) { m.Base.Last[1] = last(m.Base.Last[1].Seq+1, 4) }},
		{"Base.Last[2]", []int{3}, func(m *api.Msg) { m.Base.Last[2] = last(m.Base.Last[2].Seq+1, 1) }},
		{"Seq", []int{6, 7}, func(m *api.Msg) { m.Seq++ }},
		{"Batch", []int{6}, func(m *api.Msg) { m.Batch.Updates = append(slices.Clone(m.Batch.Updates), put(long(3), 1, 0, 1)) }},
		{"Err", []int{7}, func(m *api.Msg) { m.Err++ }},
		{"Err to one below 0", nil, func(m *api.Msg) { m.Err = -1 }},
	}
}

// text is all of it; nil and empty lists are one.
func text(x any) string {
	return fmt.Sprintf("%+v", x)
}

// short is what tells messages apart in a test's words, without long lists.
func short(m api.Msg) string {
	s := fmt.Sprintf("%d from %d to %d, Epoch %d, Prev %v, Done %d, Ok %t, Index %d, Stamp %d, Base %v %v, Seq %d, Err %d", m.Kind, m.From, m.To, m.Epoch, m.Prev, m.Done, m.Ok, m.Index, m.Stamp, m.Base.At, m.Base.Last, m.Seq, m.Err)
	for _, e := range m.Entries {
		s += fmt.Sprintf(", entry %d %d %d of %d", e.Epoch, e.Client, e.Seq, len(e.Batch.Updates))
	}
	return s + fmt.Sprintf(", %d updates, %d candidates", len(m.Batch.Updates), len(m.Base.Rib.Routes))
}

// checked fails a test, if Check tells otherwise of a message, or Encode does not go with it.
func checked(t *testing.T, what string, m api.Msg, want api.Errno) {
	t.Helper()
	if err := frame.Check(m); err != want {
		t.Errorf("%s: Check(%s): %d, not %d", what, short(m), err, want)
	}
	if b, err := frame.Encode(m); err != want || (err != api.OK) != (b == nil) {
		t.Errorf("%s: Encode(%s): %x, %d, not %d", what, short(m), b, err, want)
	}
}

// noFrame fails a test, if bytes are not refused so, or something is told beside.
func noFrame(t *testing.T, what string, b []byte, want api.Errno) {
	t.Helper()
	if m, err := frame.Decode(b); err != want || text(m) != text(api.Msg{}) {
		t.Errorf("%s: Decode(%x): %s, %d, not %d", what, b, short(m), err, want)
	}
}

// highest lays a number of so many bytes, the highest byte first.
func highest(x uint64, width int) []byte {
	b := make([]byte, width)
	for i := range b {
		b[width-1-i] = byte(x >> (8 * i))
	}
	return b
}

// sealed is bytes with their sum, reckoned by hand.
func sealed(b []byte) []byte {
	x := uint64(1)
	for _, c := range b {
		x = (257*x + uint64(c)) % 4294967291
	}
	return slices.Concat(b, highest(x, 4))
}

// bit is 1 or 0.
func bit(yes bool) byte {
	return map[bool]byte{true: 1}[yes]
}

// rawPrefix, rawBatch and rawRib are bytes of whatever stands there, as the chapters 5 and 11 lay them.
func rawPrefix(p api.Prefix) []byte {
	return append([]byte{byte(p.Addr.Version), byte(p.Bits)}, p.Addr.Bytes[:(p.Bits+7)/8]...)
}

func rawBatch(b api.Batch) []byte {
	out := []byte{byte(len(b.Updates))}
	for _, u := range b.Updates {
		out = slices.Concat(out, rawPrefix(u.Prefix), []byte{byte(u.Source), bit(u.Gone), byte(u.Pref), byte(u.Hop)})
	}
	return out
}

func rawRib(r api.Rib) []byte {
	out := []byte{byte(len(r.Routes))}
	for _, x := range r.Routes {
		out = slices.Concat(out, rawPrefix(x.Prefix), []byte{byte(x.Source), byte(x.Pref), byte(x.Hop)})
	}
	return out
}

// raw is bytes of whatever message, without their sum, laid by hand as the chapter says.
func raw(m api.Msg) []byte {
	out := slices.Concat([]byte{byte(m.Kind), byte(m.From), byte(m.To)}, highest(m.Epoch, 8))
	add := func(x uint64, width int) { out = append(out, highest(x, width)...) }
	switch m.Kind {
	case 1:
		add(m.Prev.Index, 8)
		add(m.Prev.Epoch, 8)
		add(m.Done, 8)
		add(uint64(len(m.Entries)), 1)
		for _, e := range m.Entries {
			b := rawBatch(e.Batch)
			add(e.Epoch, 8)
			add(uint64(e.Client), 1)
			add(uint64(e.Seq), 4)
			add(uint64(len(b)), 2)
			out = append(out, b...)
		}
	case 2:
		add(uint64(bit(m.Ok)), 1)
		add(m.Index, 8)
	case 3:
		add(m.Base.At.Index, 8)
		add(m.Base.At.Epoch, 8)
		add(m.Done, 8)
		for _, x := range m.Base.Last[1:] {
			add(uint64(x.Seq), 4)
			add(x.Index, 8)
		}
		b := rawRib(m.Base.Rib)
		add(uint64(len(b)), 2)
		out = append(out, b...)
	case 4, 5:
		add(m.Stamp, 8)
	case 6:
		add(uint64(m.Seq), 4)
		out = append(out, rawBatch(m.Batch)...)
	case 7:
		add(uint64(m.Seq), 4)
		add(uint64(m.Err), 2)
		add(m.Index, 8)
	}
	return out
}

// cut takes parts off bytes; behind their end there are noughts.
type cut struct {
	rest []byte
}

func (c *cut) raw(n int) []byte {
	out := make([]byte, n)
	c.rest = c.rest[copy(out, c.rest):]
	return out
}

func (c *cut) number(width int) uint64 {
	var x uint64
	for _, b := range c.raw(width) {
		x = x*256 + uint64(b)
	}
	return x
}

func (c *cut) int() int {
	return int(c.number(1))
}

// prefix is one of so many bits as are told, at most as many as an address has.
func (c *cut) prefix() api.Prefix {
	version, bits := c.int(), min(c.int(), 128)
	return prefixOf(version, bits, c.raw((bits+7)/8)...)
}

func (c *cut) batch() api.Batch {
	var b api.Batch
	for range c.int() {
		b.Updates = append(b.Updates, api.Update{Prefix: c.prefix(), Source: c.int(), Gone: c.int() == 1, Pref: c.int(), Hop: c.int()})
	}
	return b
}

func (c *cut) rib() api.Rib {
	var r api.Rib
	for range c.int() {
		r.Routes = append(r.Routes, api.Route{Prefix: c.prefix(), Source: c.int(), Pref: c.int(), Hop: c.int()})
	}
	return r
}

// guess is the only message of which these can be the bytes, if they are any.
func guess(b []byte) api.Msg {
	c := &cut{b}
	m := api.Msg{Kind: c.int(), From: c.int(), To: c.int(), Epoch: c.number(8)}
	switch m.Kind {
	case 1:
		m.Prev, m.Done = at(c.number(8), c.number(8)), c.number(8)
		for range c.int() {
			e := entry(c.number(8), c.int(), uint32(c.number(4)), api.Batch{})
			c.number(2)
			e.Batch = c.batch()
			m.Entries = append(m.Entries, e)
		}
	case 2:
		m.Ok, m.Index = c.int() == 1, c.number(8)
	case 3:
		m.Base.At, m.Done = at(c.number(8), c.number(8)), c.number(8)
		m.Base.Last = lasts(last(uint32(c.number(4)), c.number(8)), last(uint32(c.number(4)), c.number(8)))
		c.number(2)
		m.Base.Rib = c.rib()
	case 4, 5:
		m.Stamp = c.number(8)
	case 6:
		m.Seq, m.Batch = uint32(c.number(4)), c.batch()
	case 7:
		m.Seq, m.Err, m.Index = uint32(c.number(4)), api.Errno(c.number(2)), c.number(8)
	}
	return m
}

// dice are numbers that look thrown, the same ones each time.
type dice uint64

func (d *dice) roll(n int) int {
	*d = *d*6364136223846793005 + 1442695040888963407
	return int(uint64(*d) >> 33 % uint64(n))
}

// one is one of a list.
func one[T any](d *dice, l ...T) T {
	return l[d.roll(len(l))]
}

// may is whether a message may be, by the chapter's words read once more. That all else is zero is asked of its bytes: what they don't tell is not its Kind's.
func may(m api.Msg) bool {
	for _, e := range m.Entries {
		if route.CheckBatch(e.Batch) != api.OK {
			return false
		}
	}
	if (m.Kind == 6 || len(m.Batch.Updates) > 0) && route.CheckBatch(m.Batch) != api.OK || route.Check(m.Base.Rib) != api.OK {
		return false
	}
	if !ends(m) || text(guess(raw(m))) != text(m) {
		return false
	}
	if m.Kind >= 6 {
		return m.Epoch == 0 && m.Seq != 0 && m.Index <= most
	}
	for _, x := range []uint64{m.Epoch, m.Prev.Index, m.Done, m.Index, m.Stamp, m.Base.At.Index} {
		if x > most {
			return false
		}
	}
	for _, place := range []api.At{m.Prev, m.Base.At} {
		if place.Epoch > m.Epoch || place.Index > 0 && place.Epoch == 0 || place.Index == 0 && place.Epoch > 0 {
			return false
		}
	}
	for i, e := range m.Entries {
		if e.Epoch == 0 || e.Epoch > m.Epoch || e.Epoch < m.Prev.Epoch || i > 0 && e.Epoch < m.Entries[i-1].Epoch || e.Client != 1 && e.Client != 2 || e.Seq == 0 {
			return false
		}
	}
	for _, x := range m.Base.Last {
		if x.Index > m.Base.At.Index || x.Seq > 0 && x.Index == 0 || x.Seq == 0 && x.Index > 0 {
			return false
		}
	}
	return m.Epoch > 0 && len(m.Entries) < 9 && len(raw(m))+4 < 4001
}

// edges are numbers at the edges that the chapter names, and beside them.
func edges() []uint64 {
	return []uint64{0, 1, 2, 3, 4, 5, 8, 9, 10, 255, 256, 65535, 65536, most - 1, most, most + 1, 1 << 63, math.MaxUint64}
}

// tweaks are changes of one field of a message to whatever, by chance.
func tweaks() []func(d *dice, m *api.Msg) {
	number := func(d *dice) uint64 { return one(d, edges()...) }
	seq := func(d *dice) uint32 { return one[uint32](d, 0, 1, 2, math.MaxUint32) }
	some := func(d *dice) api.Batch {
		return one(d, small(), great(), api.Batch{}, batch(put(pfx(), 5, 0, 1)), batch(append(great().Updates, put(pfx(), 1, 0, 1))...))
	}
	return []func(d *dice, m *api.Msg){
		func(d *dice, m *api.Msg) { m.Kind = one(d, -1, 0, 1, 2, 3, 4, 5, 6, 7, 8, 257) },
		func(d *dice, m *api.Msg) { m.From = one(d, -1, 0, 1, 2, 3, 4, 5, 257) },
		func(d *dice, m *api.Msg) { m.To = one(d, -1, 0, 1, 2, 3, 4, 5, 258) },
		func(d *dice, m *api.Msg) { m.From, m.To = m.To, m.From },
		func(d *dice, m *api.Msg) { m.Epoch = number(d) },
		func(d *dice, m *api.Msg) { m.Prev.Index = number(d) },
		func(d *dice, m *api.Msg) { m.Prev.Epoch = number(d) },
		func(d *dice, m *api.Msg) { m.Done = number(d) },
		func(d *dice, m *api.Msg) { m.Ok = !m.Ok },
		func(d *dice, m *api.Msg) { m.Index = number(d) },
		func(d *dice, m *api.Msg) { m.Stamp = number(d) },
		func(d *dice, m *api.Msg) { m.Base.At.Index = number(d) },
		func(d *dice, m *api.Msg) { m.Base.At.Epoch = number(d) },
		func(d *dice, m *api.Msg) { m.Base.Last[d.roll(3)].Seq = seq(d) },
		func(d *dice, m *api.Msg) { m.Base.Last[d.roll(3)].Index = number(d) },
		func(d *dice, m *api.Msg) { m.Base.Last[1+d.roll(2)] = one(d, last(0, 0), last(3, 1), last(1, 5)) },
		func(d *dice, m *api.Msg) {
			m.Base.Rib = one(d, api.Rib{}, ribOf(1, 1), ribOf(40, 4), ribOf(41, 1), ribOf(2, 5))
		},
		func(d *dice, m *api.Msg) { m.Seq = seq(d) },
		func(d *dice, m *api.Msg) { m.Batch = some(d) },
		func(d *dice, m *api.Msg) {
			m.Err = one[api.Errno](d, -1, 0, 1, 270, 65535, 65536, math.MaxInt, math.MinInt)
		},
		func(d *dice, m *api.Msg) {
			m.Entries = append(slices.Clone(m.Entries), entry(number(d), d.roll(5)-1, seq(d), some(d)))
		},
		func(d *dice, m *api.Msg) {
			m.Entries = append(slices.Clone(m.Entries), entry(m.Epoch, 1+d.roll(2), 1+seq(d)/2, small()))
		},
		func(d *dice, m *api.Msg) { m.Entries = m.Entries[:d.roll(len(m.Entries)+1)] },
		func(d *dice, m *api.Msg) {
			m.Entries = slices.Clone(m.Entries)
			for i := range m.Entries {
				m.Entries[i].Epoch = number(d)
			}
		},
	}
}

// whatever is one of these messages, some fields of which were changed.
func (d *dice) whatever(l []api.Msg) api.Msg {
	m := one(d, l...)
	for range d.roll(4) {
		one(d, tweaks()...)(d, &m)
	}
	return m
}
