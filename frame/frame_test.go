package frame_test

import (
	"math"
	"slices"
	"testing"

	"junctionbox/api"
	"junctionbox/frame"
)

// P15.1

func TestCheckOfMessagesThatMayBe(t *testing.T) {
	kinds := map[int]int{}
	for _, m := range rights() {
		checked(t, "it may be", m, api.OK)
		kinds[m.Kind]++
	}
	for kind := 1; kind <= 7; kind++ {
		if kinds[kind] < 7 {
			t.Errorf("%d messages of the Kind %d", kinds[kind], kind)
		}
	}
}

// A message goes from whom its Kind says to whom its Kind says, and from nobody else, and to nobody else.
func TestWhoSaysItToWhom(t *testing.T) {
	servers := [][2]int{{1, 2}, {2, 1}}
	of := map[int][][2]int{1: servers, 2: servers, 3: servers, 4: servers, 5: servers, 6: {{3, 1}, {3, 2}, {4, 1}, {4, 2}}, 7: {{1, 3}, {1, 4}, {2, 3}, {2, 4}}}
	nodes := []int{-1, 0, 1, 2, 3, 4, 5, 255, 256, 257, 258, 259, 1<<32 + 1, 1<<32 + 2, math.MaxInt, math.MinInt, math.MinInt + 1}
	for _, m := range plain()[1:] {
		for _, from := range nodes {
			for _, to := range nodes {
				want := api.ErrMsg
				if slices.Contains(of[m.Kind], [2]int{from, to}) {
					want = api.OK
				}
				checked(t, "from one to another", between(m, from, to), want)
			}
		}
	}
}

func TestCheckOfKinds(t *testing.T) {
	all := plain()[1:]
	for _, kind := range []int{0, -1, -7, 8, 9, 255, 256, 257, 263, 1<<32 + 4, math.MaxInt, math.MinInt, math.MinInt + 4} {
		checked(t, "no Kind", ofKind(api.Msg{From: 1, To: 2, Epoch: 1}, kind), api.ErrMsg)
		checked(t, "no Kind", ofKind(api.Msg{From: 3, To: 2, Seq: 1}, kind), api.ErrMsg)
		for _, m := range all {
			checked(t, "no Kind", ofKind(m, kind), api.ErrMsg)
		}
	}
	checked(t, "nothing", api.Msg{}, api.ErrMsg)
	for kind := 1; kind <= 5; kind++ {
		checked(t, "nothing said", api.Msg{Kind: kind, From: 1, To: 2, Epoch: 1}, api.OK)
		checked(t, "no epoch", api.Msg{Kind: kind, From: 1, To: 2}, api.ErrMsg)
	}
	// What one Kind has another one has not, but for asks and grants.
	for _, m := range all {
		for kind := 1; kind <= 7; kind++ {
			want := api.ErrMsg
			if kind == m.Kind || min(kind, m.Kind) == 4 && max(kind, m.Kind) == 5 {
				want = api.OK
			}
			checked(t, "of another Kind", ofKind(m, kind), want)
		}
	}
}

func TestCheckOfEpochs(t *testing.T) {
	for _, m := range plain()[1:] {
		for _, epoch := range []uint64{0, 9, 10, most - 1, most, most + 1, 1 << 63, math.MaxUint64} {
			want := api.OK
			if (m.Kind >= 6) != (epoch == 0) || epoch > most {
				want = api.ErrMsg
			}
			checked(t, "in an epoch", in(m, epoch), want)
		}
	}
}

// A field that is not the Kind's is zero; each of those that are may be another one.
func TestCheckOfFieldsOfOthers(t *testing.T) {
	for _, m := range plain()[1:] {
		for _, s := range sets() {
			want := api.ErrMsg
			if slices.Contains(s.kinds, m.Kind) {
				want = api.OK
			}
			was := m
			s.do(&m)
			checked(t, s.name, m, want)
			m = was
		}
	}
	for _, m := range []api.Msg{ask(8), grant(8), have(true, 6)} {
		m.Entries, m.Batch.Updates, m.Base.Rib.Routes = []api.Entry{}, []api.Update{}, []api.Route{}
		checked(t, "empty lists are none", m, api.OK)
		m.Entries = []api.Entry{{}}
		checked(t, "an entry of zeros", m, api.ErrMsg)
		m.Entries, m.Batch.Updates = nil, []api.Update{{}}
		checked(t, "an update of zeros", m, api.ErrMsg)
		m.Batch.Updates, m.Base.Rib.Routes = nil, []api.Route{{}}
		checked(t, "a candidate of zeros", m, api.ErrMsg)
	}
}

// A place has an Index and an Epoch, or neither.
func TestCheckOfPlaces(t *testing.T) {
	none := lasts(last(0, 0), last(0, 0))
	for _, index := range edges() {
		for _, epoch := range edges() {
			for _, under := range []uint64{1, 2, 9, most} {
				want := api.ErrMsg
				switch {
				case index == 0 && epoch == 0, index > 0 && index <= most && epoch > 0 && epoch <= under:
					want = api.OK
				}
				checked(t, "a place", in(offer(at(index, epoch), 0), under), want)
				checked(t, "a place", in(state(at(index, epoch), 0, none, api.Rib{}), under), want)
			}
		}
	}
}

// Done, Index and Stamp are at most MaxEpoch, and go with no other field.
func TestCheckOfNumbers(t *testing.T) {
	none := lasts(last(0, 0), last(0, 0))
	for _, x := range edges() {
		want := api.OK
		if x > most {
			want = api.ErrMsg
		}
		for _, m := range []api.Msg{offer(at(1, 1), x), state(at(1, 1), x, none, api.Rib{}), have(true, x), have(false, x), ask(x), grant(x), reply(1, 0, x), reply(1, 270, x)} {
			checked(t, "a number", m, want)
		}
		if seq := uint32(x); seq == 0 {
			want = api.ErrMsg
		} else {
			want = api.OK
		}
		checked(t, "a Seq", submit(uint32(x), small()), want)
		checked(t, "a Seq", reply(uint32(x), 0, 1), want)
		checked(t, "a Seq", offer(at(0, 0), 0, entry(1, 1, uint32(x), small())), want)
	}
	for _, err := range []api.Errno{-1, -65535, math.MinInt, 0, 1, 255, 256, 270, 65534, 65535, 65536, 65537, 1 << 32, math.MaxInt} {
		want := api.OK
		if err < 0 || err > 65535 {
			want = api.ErrMsg
		}
		checked(t, "an Err", reply(4, err, 0), want)
	}
}

func TestCheckOfEntries(t *testing.T) {
	b := small()
	for _, c := range []struct {
		what  string
		prev  api.At
		under uint64
		l     []api.Entry
		want  api.Errno
	}{
		{"eight", at(0, 0), 9, eight(1, b), api.OK},
		{"nine", at(0, 0), 9, append(eight(1, b), entry(1, 1, 9, b)), api.ErrMsg},
		{"two rows of eight", at(0, 0), 9, append(eight(1, b), eight(1, b)...), api.ErrMsg},
		{"256", at(0, 0), 9, slices.Repeat(eight(1, b), 32), api.ErrMsg},
		{"Epoch 0", at(0, 0), 9, []api.Entry{entry(0, 1, 1, b)}, api.ErrMsg},
		{"Epoch 1", at(0, 0), 9, []api.Entry{entry(1, 1, 1, b)}, api.OK},
		{"Epoch 0 behind another one", at(0, 0), 9, []api.Entry{entry(1, 1, 1, b), entry(0, 1, 2, b)}, api.ErrMsg},
		{"the message's Epoch", at(0, 0), 9, []api.Entry{entry(9, 1, 1, b)}, api.OK},
		{"one above it", at(0, 0), 9, []api.Entry{entry(10, 1, 1, b)}, api.ErrMsg},
		{"one above it behind another one", at(0, 0), 9, []api.Entry{entry(9, 1, 1, b), entry(10, 1, 2, b)}, api.ErrMsg},
		{"MaxEpoch", at(0, 0), most, []api.Entry{entry(most, 1, 1, b)}, api.OK},
		{"above MaxEpoch", at(0, 0), most, []api.Entry{entry(most+1, 1, 1, b)}, api.ErrMsg},
		{"the greatest number", at(0, 0), most, []api.Entry{entry(math.MaxUint64, 1, 1, b)}, api.ErrMsg},
		{"Epochs rise", at(0, 0), 9, []api.Entry{entry(1, 1, 1, b), entry(1, 1, 2, b), entry(9, 1, 3, b)}, api.OK},
		{"they fall", at(0, 0), 9, []api.Entry{entry(2, 1, 1, b), entry(1, 1, 2, b)}, api.ErrMsg},
		{"they rise and fall", at(0, 0), 9, []api.Entry{entry(1, 1, 1, b), entry(5, 1, 2, b), entry(4, 1, 3, b)}, api.ErrMsg},
		{"they fall at the end", at(1, 1), 9, append(eight(3, b)[1:], entry(2, 1, 9, b)), api.ErrMsg},
		{"Prev's Epoch", at(5, 4), 9, []api.Entry{entry(4, 1, 1, b)}, api.OK},
		{"below Prev's", at(5, 4), 9, []api.Entry{entry(3, 1, 1, b)}, api.ErrMsg},
		{"the second one below Prev's", at(5, 4), 9, []api.Entry{entry(4, 1, 1, b), entry(3, 1, 2, b)}, api.ErrMsg},
		{"Client 0", at(0, 0), 9, []api.Entry{entry(1, 0, 1, b)}, api.ErrMsg},
		{"Client -1", at(0, 0), 9, []api.Entry{entry(1, -1, 1, b)}, api.ErrMsg},
		{"Client 2", at(0, 0), 9, []api.Entry{entry(1, 2, 1, b)}, api.OK},
		{"Client 3", at(0, 0), 9, []api.Entry{entry(1, 3, 1, b)}, api.ErrMsg},
		{"Client 257", at(0, 0), 9, []api.Entry{entry(1, 257, 1, b)}, api.ErrMsg},
		{"Client 3 behind another one", at(0, 0), 9, []api.Entry{entry(1, 1, 1, b), entry(1, 3, 1, b)}, api.ErrMsg},
		{"Seq 0", at(0, 0), 9, []api.Entry{entry(1, 1, 0, b)}, api.ErrMsg},
		{"Seq 0 behind another one", at(0, 0), 9, []api.Entry{entry(1, 1, 1, b), entry(1, 2, 0, b)}, api.ErrMsg},
		{"Seqs that fall, and come twice", at(0, 0), 9, []api.Entry{entry(1, 1, 5, b), entry(1, 1, 4, b), entry(1, 1, 4, b)}, api.OK},
		{"a last index above MaxEpoch", at(most, 1), 9, eight(1, b), api.OK},
	} {
		m := offer(c.prev, 0, c.l...)
		checked(t, c.what, in(m, c.under), c.want)
	}
}

// wrongBatches are batches that may not be.
func wrongBatches() []api.Batch {
	p := pfx()
	return []api.Batch{
		{}, batch(append(great().Updates, put(p, 1, 0, 1))...), batch(put(p, 0, 0, 1)), batch(put(p, 5, 0, 1)), batch(put(p, 1, -1, 1)), batch(put(p, 1, 256, 1)),
		batch(put(p, 1, 0, 0)), batch(put(p, 1, 0, 256)), batch(put(p, 1, 0, 1), gone(p, 1)), batch(api.Update{Prefix: p, Source: 1, Gone: true, Hop: 1}),
		batch(put(prefixOf(5, 0), 1, 0, 1)), batch(put(prefixOf(4, 8, 10, 1), 1, 0, 1)), batch(put(prefixOf(4, 33), 1, 0, 1)), batch(put(p, 2, 0, 1), api.Update{}),
	}
}

func TestCheckOfBatches(t *testing.T) {
	for _, b := range wrongBatches() {
		checked(t, "no batch", submit(4, b), api.ErrMsg)
		checked(t, "no batch", offer(at(0, 0), 0, entry(1, 1, 1, b)), api.ErrMsg)
		checked(t, "no batch at the end", offer(at(0, 0), 0, entry(1, 1, 1, small()), entry(1, 1, 2, b)), api.ErrMsg)
		checked(t, "no batch ahead", offer(at(0, 0), 0, entry(1, 1, 1, b), entry(1, 1, 2, small())), api.ErrMsg)
	}
}

func TestCheckOfBases(t *testing.T) {
	none := last(0, 0)
	for _, c := range []struct {
		what string
		l    [3]api.Last
		want api.Errno
	}{
		{"none", lasts(none, none), api.OK},
		{"up to the base", lasts(last(7, 5), last(1, 1)), api.OK},
		{"both at one index", lasts(last(7, 5), last(7, 5)), api.OK},
		{"above the base", lasts(last(7, 6), none), api.ErrMsg},
		{"the other one above the base", lasts(last(7, 5), last(1, 6)), api.ErrMsg},
		{"far above it", lasts(none, last(1, math.MaxUint64)), api.ErrMsg},
		{"no Seq", lasts(last(0, 5), none), api.ErrMsg},
		{"the other one without a Seq", lasts(none, last(0, 1)), api.ErrMsg},
		{"no Index", lasts(last(7, 0), none), api.ErrMsg},
		{"the other one without an Index", lasts(last(1, 1), last(1, 0)), api.ErrMsg},
		{"somebody at the place 0", [3]api.Last{last(1, 1), none, none}, api.ErrMsg},
		{"a Seq at the place 0", [3]api.Last{last(1, 0), none, none}, api.ErrMsg},
		{"an Index at the place 0", [3]api.Last{last(0, 1), none, none}, api.ErrMsg},
		{"the same one at the place 0", [3]api.Last{last(7, 5), last(7, 5), none}, api.ErrMsg},
	} {
		checked(t, c.what, state(at(5, 4), 0, c.l, api.Rib{}), c.want)
	}
	checked(t, "up to no base", state(at(0, 0), 0, lasts(last(1, 1), none), api.Rib{}), api.ErrMsg)
	clear := lasts(none, none)
	turned, twice := ribOf(2, 2), ribOf(2, 1)
	slices.Reverse(turned.Routes)
	twice.Routes[1] = twice.Routes[0]
	for _, r := range []api.Rib{ribOf(41, 1), ribOf(1, 5), ribOf(300, 4), turned, twice, {Routes: []api.Route{{}}}, {Routes: []api.Route{{Prefix: pfx(), Source: 1}}}, {Routes: []api.Route{{Prefix: prefixOf(5, 0), Source: 1, Hop: 1}}}} {
		checked(t, "no RIB", state(at(5, 4), 0, clear, r), api.ErrMsg)
	}
	for _, r := range []api.Rib{ribOf(40, 1), ribOf(40, 4), ribOf(1, 4)} {
		checked(t, "a RIB", state(at(5, 4), 0, clear, r), api.OK)
		checked(t, "a RIB at no place", state(at(0, 0), 0, clear, r), api.OK)
	}
}

// Each of many messages may be, or may not, as the chapter's words, read once more, have it.
func TestCheckOfWhatever(t *testing.T) {
	var d dice
	all := append(rights(), api.Msg{}, ofKind(api.Msg{}, 8))
	right, wrong := map[int]int{}, map[int]int{}
	for range 40000 {
		m := d.whatever(all)
		if may(m) {
			right[m.Kind]++
			checked(t, "whatever", m, api.OK)
		} else {
			wrong[m.Kind]++
			checked(t, "whatever", m, api.ErrMsg)
		}
		if t.Failed() {
			return
		}
	}
	for kind := 1; kind <= 7; kind++ {
		if right[kind] < 300 || wrong[kind] < 300 {
			t.Errorf("of the Kind %d %d may be, and %d may not", kind, right[kind], wrong[kind])
		}
	}
}

// alike fails a test, if it is not told, both ways, that two are the same, or are not.
func alike(t *testing.T, what string, a, b api.Msg, want bool) {
	t.Helper()
	if frame.Same(a, b) != want || frame.Same(b, a) != want {
		t.Errorf("%s: Same(%s, %s): %t and %t, not %t", what, short(a), short(b), frame.Same(a, b), frame.Same(b, a), want)
	}
}

func TestSameOfEachTwo(t *testing.T) {
	l, again := rights(), rights()
	for i := range l {
		for k := range again {
			alike(t, "two that may be", l[i], again[k], i == k)
		}
	}
}

// laden is a message in which no field is zero: it may not be.
func laden() api.Msg {
	return api.Msg{Kind: 1, From: 2, To: 3, Epoch: 4, Prev: at(5, 6), Done: 7, Ok: true, Index: 8, Stamp: 9, Seq: 10, Err: 11,
		Entries: []api.Entry{entry(12, 13, 14, small()), entry(12, 13, 15, batch(put(pfx(), 1, 2, 3), gone(pfx(), 2)))},
		Base:    api.Base{At: at(16, 17), Rib: ribOf(2, 2), Last: [3]api.Last{last(18, 19), last(20, 21), last(22, 23)}}, Batch: great()}
}

// Who differ in one field are not the same, whether they may be or not.
func TestSameFieldByField(t *testing.T) {
	alike(t, "laden", laden(), laden(), true)
	more := []set{
		{"Kind", nil, func(m *api.Msg) { m.Kind++ }},
		{"From", nil, func(m *api.Msg) { m.From++ }},
		{"To", nil, func(m *api.Msg) { m.To++ }},
		{"Epoch", nil, func(m *api.Msg) { m.Epoch++ }},
		{"Epoch far off", nil, func(m *api.Msg) { m.Epoch += 1 << 60 }},
		{"no Entries", nil, func(m *api.Msg) { m.Entries = nil }},
		{"fewer Entries", nil, func(m *api.Msg) { m.Entries = m.Entries[:1] }},
		{"Entries turned round", nil, func(m *api.Msg) { slices.Reverse(m.Entries) }},
		{"an entry's Epoch", nil, func(m *api.Msg) { m.Entries[1].Epoch++ }},
		{"an entry's Client", nil, func(m *api.Msg) { m.Entries[0].Client++ }},
		{"an entry's Seq", nil, func(m *api.Msg) { m.Entries[1].Seq++ }},
		{"an entry without updates", nil, func(m *api.Msg) { m.Entries[1].Batch = api.Batch{} }},
		{"an entry's Pref", nil, func(m *api.Msg) { m.Entries[0].Batch.Updates[0].Pref++ }},
		{"an entry's Gone", nil, func(m *api.Msg) { m.Entries[1].Batch.Updates[1].Gone = false }},
		{"an entry's prefix", nil, func(m *api.Msg) { m.Entries[1].Batch.Updates[0].Prefix.Addr.Bytes[15]++ }},
		{"no Base", nil, func(m *api.Msg) { m.Base = api.Base{} }},
		{"no Rib", nil, func(m *api.Msg) { m.Base.Rib = api.Rib{} }},
		{"a shorter Rib", nil, func(m *api.Msg) { m.Base.Rib.Routes = m.Base.Rib.Routes[:3] }},
		{"a candidate's Hop", nil, func(m *api.Msg) { m.Base.Rib.Routes[2].Hop++ }},
		{"a candidate's prefix", nil, func(m *api.Msg) { m.Base.Rib.Routes[3].Prefix.Bits++ }},
		{"Last turned round", nil, func(m *api.Msg) { m.Base.Last[1], m.Base.Last[2] = m.Base.Last[2], m.Base.Last[1] }},
		{"no Batch", nil, func(m *api.Msg) { m.Batch = api.Batch{} }},
		{"an update's Source", nil, func(m *api.Msg) { m.Batch.Updates[7].Source++ }},
		{"an update's Hop", nil, func(m *api.Msg) { m.Batch.Updates[0].Hop++ }},
	}
	for _, s := range append(sets(), more...) {
		m := laden()
		s.do(&m)
		alike(t, s.name, laden(), m, false)
	}
	for _, s := range sets() {
		var m api.Msg
		s.do(&m)
		alike(t, s.name, api.Msg{}, m, false)
		alike(t, s.name, m, m, true)
	}
}

// Nil and empty lists are one, and what stands behind a list's end is not asked for.
func TestSameOfLists(t *testing.T) {
	empty := api.Msg{Entries: []api.Entry{}, Base: api.Base{Rib: api.Rib{Routes: []api.Route{}}}, Batch: api.Batch{Updates: []api.Update{}}}
	alike(t, "no lists", api.Msg{}, empty, true)
	none, some := offer(at(0, 0), 0, api.Entry{}), offer(at(0, 0), 0, entry(0, 0, 0, api.Batch{Updates: make([]api.Update, 0, 3)}))
	alike(t, "no lists", none, some, true)
	m := laden()
	m.Entries = append(m.Entries, entry(1, 2, 3, small()))[:2]
	m.Batch.Updates = append(m.Batch.Updates, gone(pfx(), 3))[:8]
	m.Base.Rib.Routes = append(m.Base.Rib.Routes, api.Route{Hop: 7})[:4]
	alike(t, "room behind the ends", laden(), m, true)
}

// Who are the same is told of whatever messages as their texts tell it.
func TestSameOfWhatever(t *testing.T) {
	d := dice(5)
	all := append(rights(), laden(), api.Msg{})
	same, other := 0, 0
	for range 20000 {
		a := d.whatever(all)
		b := a
		for range 1 + d.roll(2) {
			one(&d, tweaks()...)(&d, &b)
		}
		want := text(a) == text(b)
		alike(t, "whatever", a, b, want)
		if want {
			same++
		} else {
			other++
		}
	}
	if same < 500 || other < 5000 {
		t.Errorf("%d were the same, %d not", same, other)
	}
}
