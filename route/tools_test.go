package route_test

import (
	"bytes"
	"maps"
	"math"
	"slices"
	"strconv"
	"strings"
	"testing"

	"junctionbox/api"
	"junctionbox/route"
)

// four and six are prefixes of so many bits; bytes of the address that are not told are noughts.
func four(bits int, b ...byte) api.Prefix {
	return prefixOf(4, bits, b...)
}

func six(bits int, b ...byte) api.Prefix {
	return prefixOf(6, bits, b...)
}

func prefixOf(version, bits int, b ...byte) api.Prefix {
	p := api.Prefix{Addr: api.Addr{Version: version}, Bits: bits}
	copy(p.Addr.Bytes[:], b)
	return p
}

// put is an update that tells a candidate, gone one that withdraws it.
func put(p api.Prefix, source, pref, hop int) api.Update {
	return api.Update{Prefix: p, Source: source, Pref: pref, Hop: hop}
}

func gone(p api.Prefix, source int) api.Update {
	return api.Update{Prefix: p, Source: source, Gone: true}
}

func cand(p api.Prefix, source, pref, hop int) api.Route {
	return api.Route{Prefix: p, Source: source, Pref: pref, Hop: hop}
}

// batch and rib are of updates and candidates as they come, right or not.
func batch(l ...api.Update) api.Batch {
	return api.Batch{Updates: l}
}

func rib(l ...api.Route) api.Rib {
	return api.Rib{Routes: l}
}

// pfx is 10.0.0.0/8, qfx 10.1.0.0/16.
func pfx() api.Prefix {
	return four(8, 10)
}

func qfx() api.Prefix {
	return four(16, 10, 1)
}

// full is so many bytes of ones.
func full(n int) []byte {
	return bytes.Repeat([]byte{255}, n)
}

// nth is the n-th of a row of prefixes that rise.
func nth(n int) api.Prefix {
	return six(16, 0x20, byte(n))
}

// wide is candidates of so many prefixes, each by so many sources.
func wide(prefixes, sources int) []api.Route {
	var l []api.Route
	for i := range prefixes {
		for source := 1; source <= sources; source++ {
			l = append(l, cand(nth(i), source, 7*i%256, 1+(3*i+source)%255))
		}
	}
	return l
}

// puts is so many updates of as many prefixes, from the first-th of the row on.
func puts(first, count int) []api.Update {
	var l []api.Update
	for i := range count {
		l = append(l, put(nth(first+i), 1, 0, 1))
	}
	return l
}

// key is a prefix's name and a source, value a Pref and a Hop: a RIB once more, as the chapter's words are read.
type key struct {
	text   string
	source int
}

type value struct {
	pref, hop int
}

type model map[key]value

// name is a prefix as a text: its version, and its first bits as 0 and 1.
func name(p api.Prefix) string {
	var out strings.Builder
	for _, b := range p.Addr.Bytes {
		text := strconv.FormatInt(int64(b), 2)
		out.WriteString(strings.Repeat("0", 8-len(text)) + text)
	}
	return strconv.Itoa(p.Addr.Version) + out.String()[:p.Bits]
}

// named is the prefix of a name.
func named(text string) api.Prefix {
	p := prefixOf(int(text[0]-'0'), len(text)-1)
	for i, c := range []byte(text[1:]) {
		if c == '1' {
			p.Addr.Bytes[i/8] |= 128 >> (i % 8)
		}
	}
	return p
}

// names are those of its prefixes in their order: as texts with noughts behind them, then the shorter ones first.
func (m model) names() []string {
	all := map[string]int{}
	for k := range m {
		all[k.text]++
	}
	return slices.SortedFunc(maps.Keys(all), func(x, y string) int {
		padded := func(text string) string { return text + strings.Repeat("0", 129-len(text)) }
		if by := strings.Compare(padded(x), padded(y)); by != 0 {
			return by
		}
		return len(x) - len(y)
	})
}

func (m model) rib() api.Rib {
	var r api.Rib
	for _, text := range m.names() {
		for source := 1; source <= 4; source++ {
			if v, there := m[key{text, source}]; there {
				r.Routes = append(r.Routes, cand(named(text), source, v.pref, v.hop))
			}
		}
	}
	return r
}

// table is the best of each prefix: from the greatest Pref down and the least source up, the first one that is there.
func (m model) table() api.Table {
	var t api.Table
	for _, text := range m.names() {
		t.Rows = append(t.Rows, api.Row{Prefix: named(text), Hop: m.best(text)})
	}
	return t
}

func (m model) best(text string) int {
	for pref := 255; pref >= 0; pref-- {
		for source := 1; source <= 4; source++ {
			if v, there := m[key{text, source}]; there && v.pref == pref {
				return v.hop
			}
		}
	}
	return 0
}

// apply is the model behind a batch that may be.
func (m model) apply(b api.Batch) (model, api.Errno) {
	out := maps.Clone(m)
	for _, u := range b.Updates {
		k := key{name(u.Prefix), u.Source}
		if _, there := m[k]; u.Gone && !there {
			return nil, api.ErrNone
		}
		if u.Gone {
			delete(out, k)
		} else {
			out[k] = value{u.Pref, u.Hop}
		}
	}
	if len(out.names()) > 40 {
		return nil, api.ErrFull
	}
	return out, api.OK
}

// wireBatch and wireRib are bytes of whatever stands there, as the chapter lays them.
func wireBatch(l ...api.Update) []byte {
	out := []byte{byte(len(l))}
	for _, u := range l {
		out = append(out, wirePrefix(u.Prefix)...)
		out = append(out, byte(u.Source), map[bool]byte{true: 1}[u.Gone], byte(u.Pref), byte(u.Hop))
	}
	return out
}

func wireRib(l ...api.Route) []byte {
	out := []byte{byte(len(l))}
	for _, x := range l {
		out = append(out, wirePrefix(x.Prefix)...)
		out = append(out, byte(x.Source), byte(x.Pref), byte(x.Hop))
	}
	return out
}

func wirePrefix(p api.Prefix) []byte {
	return append([]byte{byte(p.Addr.Version), byte(p.Bits)}, p.Addr.Bytes[:(p.Bits+7)/8]...)
}

// dice is a row of numbers that is the same each time.
type dice uint64

func (d *dice) roll(n int) int {
	*d = *d*6364136223846793005 + 1442695040888963407
	return int(uint64(*d) >> 33 % uint64(n))
}

// prefix is one of a few hundred, many of which hold others.
func (d *dice) prefix() api.Prefix {
	p := prefixOf(4+2*d.roll(2), 0, []byte{0, 10, 128, 255}[d.roll(4)], []byte{0, 1, 128, 255}[d.roll(4)])
	p.Bits = d.roll(17)
	return named(name(p))
}

// batch is one that may be; what goes is often there, what comes is often of a prefix that is.
func (d *dice) batch(m model) api.Batch {
	there := m.rib().Routes
	met := map[key]bool{}
	var b api.Batch
	for range 1 + d.roll(8) {
		u := put(d.prefix(), 1+d.roll(4), d.roll(3), 1+d.roll(255))
		if len(there) > 0 && d.roll(2) == 0 {
			x := there[d.roll(len(there))]
			u.Prefix, u.Source = x.Prefix, x.Source
		}
		if d.roll(8) == 0 || m[key{name(u.Prefix), u.Source}].hop > 0 && d.roll(2) == 0 {
			u = gone(u.Prefix, u.Source)
		}
		if k := (key{name(u.Prefix), u.Source}); !met[k] {
			met[k] = true
			b.Updates = append(b.Updates, u)
		}
	}
	return b
}

// model has candidates of at most so many prefixes.
func (d *dice) model(prefixes int) model {
	m := model{}
	for range prefixes {
		text := name(d.prefix())
		for range 1 + d.roll(4) {
			m[key{text, 1 + d.roll(4)}] = value{d.roll(3), 1 + d.roll(255)}
		}
	}
	return m
}

// wrongNumbers are those outside of a range of least to greatest, small, great, and such as are within by their low bits.
func wrongNumbers(least, greatest int) []int {
	return []int{least - 1, least - 2, greatest + 1, greatest + 2, -greatest - 1, least + 256, greatest + 256, least + 65536, greatest + 1<<32, math.MinInt, math.MinInt + greatest, math.MaxInt}
}

func wrongPrefixes() []api.Prefix {
	l := []api.Prefix{
		four(-1), four(33), four(8, 10, 1), four(32, 1, 2, 3, 4, 5), four(math.MaxInt), four(math.MinInt),
		six(-1), six(129), six(127, full(16)...), six(0, 1),
	}
	for _, version := range []int{0, 1, 5, 7, -4, 260, math.MinInt, math.MaxInt} {
		l = append(l, prefixOf(version, 0), prefixOf(version, 8, 10))
	}
	return l
}

// rightUpdates and wrongUpdates: what may stand in a batch, and what may not.
func rightUpdates() []api.Update {
	l := []api.Update{put(four(0), 1, 0, 1), put(four(32, full(4)...), 4, 255, 255), put(six(0), 2, 128, 7), put(six(128, full(16)...), 3, 1, 254), gone(four(0), 1), gone(six(128, full(16)...), 4)}
	for source := 1; source <= 4; source++ {
		l = append(l, put(pfx(), source, 0, 255), gone(qfx(), source))
	}
	for pref := range 256 {
		l = append(l, put(qfx(), 1, pref, 1+pref/2))
	}
	return l
}

func wrongUpdates() []api.Update {
	var l []api.Update
	for _, p := range wrongPrefixes() {
		l = append(l, put(p, 1, 0, 1), gone(p, 1))
	}
	for _, source := range wrongNumbers(1, 4) {
		l = append(l, put(pfx(), source, 0, 1), gone(pfx(), source))
	}
	for _, pref := range wrongNumbers(0, 255) {
		l = append(l, put(pfx(), 1, pref, 1), api.Update{Prefix: pfx(), Source: 1, Gone: true, Pref: pref})
	}
	for _, hop := range wrongNumbers(1, 255) {
		l = append(l, put(pfx(), 1, 0, hop))
	}
	for _, x := range []int{1, 2, 255, 256, -1, math.MinInt} {
		l = append(l, api.Update{Prefix: pfx(), Source: 1, Gone: true, Pref: x}, api.Update{Prefix: pfx(), Source: 1, Gone: true, Hop: x}, api.Update{Prefix: pfx(), Source: 1, Gone: true, Pref: x, Hop: x})
	}
	return append(l, api.Update{})
}

// rightBatches and wrongBatches.
func rightBatches() []api.Batch {
	l := []api.Batch{
		batch(put(pfx(), 2, 5, 7), put(pfx(), 1, 5, 9)), batch(gone(pfx(), 2), put(pfx(), 1, 5, 9), gone(pfx(), 4), put(pfx(), 3, 0, 9)),
		batch(put(qfx(), 1, 0, 1), put(pfx(), 1, 0, 1), gone(six(8, 10), 1), gone(four(16, 10), 1)),
		batch(puts(0, 7)...), batch(puts(0, 8)...),
	}
	for _, u := range rightUpdates() {
		l = append(l, batch(u), batch(put(four(8, 9), 1, 1, 1), u), batch(u, gone(four(8, 9), 1)))
	}
	return l
}

func wrongBatches() []api.Batch {
	l := []api.Batch{
		{}, {Updates: []api.Update{}}, batch(puts(0, 9)...), batch(puts(0, 200)...),
		batch(put(pfx(), 1, 0, 1), put(pfx(), 1, 0, 1)), batch(put(pfx(), 1, 0, 1), put(pfx(), 1, 2, 3)),
		batch(put(pfx(), 1, 0, 1), gone(pfx(), 1)), batch(gone(pfx(), 1), put(pfx(), 1, 0, 1)), batch(gone(pfx(), 1), gone(pfx(), 1)),
	}
	for _, u := range wrongUpdates() {
		l = append(l, batch(u), batch(put(qfx(), 1, 1, 1), u), batch(u, put(qfx(), 1, 1, 1)))
	}
	for i := range 8 {
		for j := range i {
			twice := puts(0, 8)
			twice[i] = twice[j]
			l = append(l, batch(twice...))
		}
	}
	return l
}

// rightRibs and wrongRibs.
func rightRibs() []api.Rib {
	l := []api.Rib{
		{}, {Routes: []api.Route{}},
		rib(cand(pfx(), 1, 5, 9), cand(pfx(), 2, 5, 7)),
		rib(cand(pfx(), 4, 0, 1), cand(four(16, 10), 1, 0, 1), cand(qfx(), 3, 0, 1), cand(six(0), 1, 255, 255)),
		rib(wide(1, 4)...), rib(wide(39, 4)...), rib(wide(40, 1)...), rib(wide(40, 4)...),
	}
	for _, u := range rightUpdates() {
		if !u.Gone {
			l = append(l, rib(cand(u.Prefix, u.Source, u.Pref, u.Hop)))
		}
	}
	var d dice
	for range 30 {
		l = append(l, d.model(d.roll(41)).rib())
	}
	return l
}

func wrongRibs() []api.Rib {
	l := []api.Rib{
		rib(wide(41, 1)...), rib(wide(41, 4)...), rib(wide(200, 1)...), rib(append(wide(40, 4), cand(six(16, 0x21), 1, 0, 1))...),
		rib(cand(pfx(), 1, 5, 9), cand(pfx(), 1, 5, 9)), rib(cand(pfx(), 1, 5, 9), cand(pfx(), 1, 6, 8)),
		rib(cand(pfx(), 2, 9, 9), cand(pfx(), 1, 5, 9)), rib(cand(qfx(), 1, 5, 9), cand(pfx(), 1, 5, 9)), rib(cand(qfx(), 1, 5, 9), cand(pfx(), 2, 5, 9)),
		rib(cand(four(16, 10), 1, 5, 9), cand(pfx(), 1, 5, 9)), rib(cand(six(0), 1, 5, 9), cand(pfx(), 1, 5, 9)),
		rib(cand(pfx(), 1, 5, 9), cand(qfx(), 1, 5, 9), cand(pfx(), 2, 5, 9)),
		rib(cand(four(8, 9), 1, 5, 9), cand(four(8, 11), 1, 5, 9), cand(pfx(), 1, 5, 9)),
	}
	for _, u := range wrongUpdates() {
		if !u.Gone {
			x := cand(u.Prefix, u.Source, u.Pref, u.Hop)
			l = append(l, rib(x), rib(x, cand(six(128, full(16)...), 4, 0, 1)), rib(cand(four(0), 1, 0, 1), x))
		}
	}
	return l
}

// sameRib fails a test, if a RIB is not as it should be.
func sameRib(t *testing.T, what string, got, want api.Rib) {
	t.Helper()
	if !slices.Equal(got.Routes, want.Routes) {
		t.Fatalf("%s: %v, not %v", what, got, want)
	}
}

// must is the RIB behind a batch.
func must(t *testing.T, r api.Rib, b api.Batch) api.Rib {
	t.Helper()
	out, err := route.Apply(r, b)
	if err != api.OK {
		t.Fatalf("Apply(%v, %v): %d", r, b, err)
	}
	return out
}

// refused fails a test, if a batch is not refused so.
func refused(t *testing.T, r api.Rib, b api.Batch, want api.Errno) {
	t.Helper()
	if got, err := route.Apply(r, b); got.Routes != nil || err != want {
		t.Fatalf("Apply(%v, %v): %v, %d, not %d", r, b, got, err, want)
	}
}
