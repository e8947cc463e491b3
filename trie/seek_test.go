package trie_test

import (
	"math"
	"testing"

	"junctionbox/api"
	"junctionbox/arena"
	"junctionbox/trie"
)

// P8.2

func TestBegin(t *testing.T) {
	for _, x := range []api.Addr{four(), four(10, 1, 2, 3), six(), six(full(16)...)} {
		for _, root := range []int{0, 1, 17, -1, math.MaxInt, math.MinInt} {
			s, err := trie.Begin(x, root)
			if want := (api.Seek{Addr: x, Place: root, Over: root == 0}); s != want || err != api.OK {
				t.Errorf("Begin(%v, %d): %v, %d", x, root, s, err)
			}
		}
	}
	for _, x := range wrongAddrs() {
		for _, root := range []int{0, 17} {
			if s, err := trie.Begin(x, root); s != (api.Seek{}) || err != api.ErrAddr {
				t.Errorf("Begin(%v, %d): %v, %d", x, root, s, err)
			}
		}
	}
}

// steps fails a test, if a seek does not go on to these seeks, the last one of which is over.
func steps(t *testing.T, a *arena.Arena, s api.Seek, want ...api.Seek) {
	t.Helper()
	for i, w := range want {
		w.Addr = s.Addr
		next, err := trie.Next(a, s)
		if next != w || err != api.OK {
			t.Fatalf("step %d: %v, %d, not %v", i, next, err, w)
		}
		s = next
	}
	if !s.Over {
		t.Fatalf("not over: %v", s)
	}
	if again, err := trie.Next(a, s); again != s || err != api.OK {
		t.Errorf("a seek that is over: %v, %d", again, err)
	}
}

func begin(t *testing.T, x api.Addr, root int) api.Seek {
	t.Helper()
	s, err := trie.Begin(x, root)
	if err != api.OK {
		t.Fatalf("Begin(%v, %d): %d", x, root, err)
	}
	return s
}

func TestNextStepByStep(t *testing.T) {
	l := layOne(t)
	steps(t, l.a, begin(t, four(), l.root), api.Seek{Bits: 0, Hop: 1, Found: true, Over: true})
	steps(t, l.a, begin(t, four(0b10010000), l.root), api.Seek{Bits: 1, Hop: 2, Found: true, Over: true})
	steps(t, l.a, begin(t, four(0b11100000), l.root), api.Seek{Bits: 3, Hop: 3, Found: true, Over: true})
	steps(t, l.a, begin(t, four(0b00011111), l.root),
		api.Seek{Place: l.one, Depth: 1, Bits: 0, Hop: 1, Found: true},
		api.Seek{Depth: 1, Bits: 4, Hop: 4, Found: true, Over: true})
	// Nothing longer is there: what was found stays.
	s := begin(t, four(0b00101000), l.root)
	two, _ := l.a.Load(l.children, 1)
	steps(t, l.a, s,
		api.Seek{Place: int(two), Depth: 1, Bits: 0, Hop: 1, Found: true},
		api.Seek{Depth: 1, Bits: 0, Hop: 1, Found: true, Over: true})
	// Down to the deepest depth, and off the way to it.
	got := begin(t, four(0xf0, 0, 0, 1), l.root)
	for depth := 1; depth <= 8; depth++ {
		next, err := trie.Next(l.a, got)
		if err != api.OK || next.Depth != depth || next.Over || next.Bits != 3 || next.Hop != 3 || !next.Found {
			t.Fatalf("depth %d: %v, %d", depth, next, err)
		}
		got = next
	}
	if got.Place != l.deepest {
		t.Errorf("the deepest one: %v", got)
	}
	steps(t, l.a, got, api.Seek{Depth: 8, Bits: 32, Hop: 6, Found: true, Over: true})
	off := begin(t, four(0xf0, 0, 0, 2), l.root)
	for !off.Over {
		off, _ = trie.Next(l.a, off)
	}
	if want := (api.Seek{Addr: off.Addr, Depth: 7, Bits: 3, Hop: 3, Found: true, Over: true}); off != want {
		t.Errorf("off the way: %v", off)
	}
}

func TestNextOfWhatHasNoPrefix(t *testing.T) {
	a := made(t, 200)
	kid := node(t, a, 1<<3, 0, block(t, a, 0, 9), 0) // the two bits 00
	root := node(t, a, 0, 1<<10, 0, block(t, a, 0, uint32(kid)))
	steps(t, a, begin(t, four(0xb0), root), api.Seek{Over: true})
	steps(t, a, begin(t, four(0xa4), root), api.Seek{Place: kid, Depth: 1}, api.Seek{Depth: 1, Over: true})
	steps(t, a, begin(t, six(0xa3), root), api.Seek{Place: kid, Depth: 1}, api.Seek{Depth: 1, Bits: 6, Hop: 9, Found: true, Over: true})
	steps(t, a, begin(t, four(), 0))
}

// At the deepest depth an address has no bit left: a node there is asked for its prefix of 0 bits alone, and for no child.
func TestNextAtTheDeepestDepth(t *testing.T) {
	a := made(t, 200)
	kids := block(t, a, 4, 17, 17, 17)
	deep := node(t, a, 1<<15-1, 1<<16-1, block(t, a, 4, 1, 2, 3, 4, 5, 6, 7, 8, 9, 10, 11, 12, 13, 14, 15), kids)
	none := node(t, a, 1<<15-2, 1, block(t, a, 4, 2, 3, 4, 5, 6, 7, 8, 9, 10, 11, 12, 13, 14, 15), 17)
	for _, x := range []api.Addr{four(full(4)...), six(full(16)...), four(), six()} {
		depth := widthOf(x.Version) / 4
		steps(t, a, api.Seek{Addr: x, Place: deep, Depth: depth}, api.Seek{Depth: depth, Bits: 4 * depth, Hop: 1, Found: true, Over: true})
		steps(t, a, api.Seek{Addr: x, Place: none, Depth: depth}, api.Seek{Depth: depth, Over: true})
		s := api.Seek{Addr: x, Place: deep, Depth: depth - 1}
		next, err := trie.Next(a, s)
		if err != api.OK || next.Over || next.Bits != 4*depth-1 || next.Depth != depth {
			t.Errorf("one above: %v, %d", next, err)
		}
	}
	if s, err := trie.Next(a, api.Seek{Addr: six(full(16)...), Place: none, Depth: 8}); err != api.OK || s.Bits != 35 || s.Hop != 15 || !s.Over {
		t.Errorf("the depth 8 of version 6: %v, %d", s, err)
	}
}

func TestNextOfWrongSeeks(t *testing.T) {
	l := layOne(t)
	for _, x := range wrongAddrs() {
		for _, s := range []api.Seek{{Addr: x, Place: l.root}, {Addr: x, Place: l.root, Depth: -1}, {Addr: x, Over: true}, {Addr: x, Place: 1}} {
			if got, err := trie.Next(l.a, s); got != (api.Seek{}) || err != api.ErrAddr {
				t.Errorf("Next(%v): %v, %d", s, got, err)
			}
		}
	}
	for _, x := range []api.Addr{four(10), six(10)} {
		beyond := widthOf(x.Version)/4 + 1
		for _, depth := range []int{-1, -2, math.MinInt, beyond, beyond + 1, 128, math.MaxInt, 1 << 32, 1<<62 + 1} {
			for _, s := range []api.Seek{{Place: l.root}, {Over: true}, {Place: 1}, {Found: true, Over: true}} {
				s.Addr, s.Depth = x, depth
				if got, err := trie.Next(l.a, s); got != (api.Seek{}) || err != api.ErrArg {
					t.Errorf("Next(%v): %v, %d", s, got, err)
				}
			}
		}
		for _, depth := range []int{0, 1, beyond - 1} {
			s := api.Seek{Addr: x, Place: 12345, Depth: depth, Bits: 77, Hop: -3, Found: depth == 1, Over: true}
			if got, err := trie.Next(l.a, s); got != s || err != api.OK {
				t.Errorf("Next(%v), which is over: %v, %d", s, got, err)
			}
		}
	}
}

func TestNextWhereThereIsNoNode(t *testing.T) {
	l := layOne(t)
	giveBack(t, l.a, []int{l.deepest})
	places := append(wrongPlaces(l.a), 0, l.results-1, l.oneResults, l.deepestResults, l.children)
	for _, q := range [][4]uint32{{1 << 15, 17}, {0, 17}, {1}, {0, 0, 17}, {1 << 16}, {1, 0, 17, 1}, {0, 0, 17, 1}} {
		places = append(places, block(t, l.a, 2, q[:]...))
	}
	for class := range 6 {
		if class != 2 {
			places = append(places, block(t, l.a, class, 0))
		}
	}
	for _, place := range places {
		for _, s := range []api.Seek{{}, {Depth: 3, Bits: 2, Hop: 1, Found: true}, {Depth: 8}} {
			s.Addr, s.Place = four(10), place
			if got, err := trie.Next(l.a, s); got != (api.Seek{}) || err != api.ErrTrie {
				t.Errorf("Next(%v): %v, %d", s, got, err)
			}
		}
		if place == 0 {
			continue
		}
		if h, found, err := trie.Lookup(l.a, place, four(10)); h != (api.Row{}) || found || err != api.ErrTrie {
			t.Errorf("Lookup(%d): %v, %t, %d", place, h, found, err)
		}
	}
}

// Next asks for no more than it needs: words that it does not go to, and classes that are greater than they have to be, are left alone.
func TestNextAsksForWhatItNeeds(t *testing.T) {
	for size := range 6 {
		a := made(t, 600)
		bits := uint32(1<<5 - 1) // five bits, for which eight words are needed at least
		results := block(t, a, size, 0)
		children := block(t, a, size, 0)
		root := node(t, a, bits, bits, results, children)
		ok := size >= 3
		next := func(what string, x api.Addr, depth int, want api.Errno) {
			t.Helper()
			s, err := trie.Next(a, api.Seek{Addr: x, Place: root, Depth: depth})
			if is(t, what, err, want); err != api.OK && s != (api.Seek{}) {
				t.Errorf("%s: %v", what, s)
			}
		}
		want := map[bool]api.Errno{true: api.OK, false: api.ErrTrie}[ok]
		next("a prefix and a child", four(), 0, want)
		next("a prefix, and no child", four(0x80), 0, want)
		next("the prefix of 0 bits alone", four(), 8, want)
		put(t, a, root, 0, bits<<16+1<<14)
		put(t, a, root, 1, 5)
		next("a child, and no prefix", four(), 0, want)
		next("neither", four(0x80), 0, api.OK)
		next("a child at the deepest depth", four(), 8, api.OK)
		next("a prefix at no place", four(0xe0), 0, api.ErrTrie)
		put(t, a, root, 0, 1<<20+1<<19+1<<17+bits)
		put(t, a, root, 1, uint32(results))
		put(t, a, root, 2, 5)
		next("children at no place", four(0x40), 0, api.ErrTrie)
		next("children at no place, for which it is not asked", four(0x50), 0, want)
	}
}

// What stands behind a node's words is a matter of whether there is a trie: Next and Lookup do not ask it, all others do.
func TestNextAndWhatIsBehindTheNode(t *testing.T) {
	for _, x := range []uint32{1, 17, 1 << 15, 1 << 31, math.MaxUint32} {
		for _, which := range []func(l laid) int{
			func(l laid) int { return l.root },
			func(l laid) int { return l.one },
			func(l laid) int { return l.three },
			func(l laid) int { return l.deepest },
		} {
			l := layOne(t)
			put(t, l.a, which(l), 3, x)
			steps(t, l.a, begin(t, four(0x10), l.root),
				api.Seek{Place: l.one, Depth: 1, Bits: 0, Hop: 1, Found: true},
				api.Seek{Depth: 1, Bits: 4, Hop: 4, Found: true, Over: true})
			for _, addr := range []api.Addr{four(), four(0x10), four(0x20), four(128), four(0xf0, 0, 0, 1), four(0xf0, 0, 0, 2)} {
				looks(t, l.a, l.root, laidTable(), addr)
			}
			stays(t, l.a, "what is refused", func() {
				refused(t, "a word behind the node", l.a, l.root, 4, api.ErrTrie)
			})
		}
	}
	a := made(t, 100)
	root := node(t, a, 0, 0, 0, 0)
	put(t, a, root, 3, 1)
	steps(t, a, begin(t, four(10), root), api.Seek{Over: true})
	refused(t, "a word behind a node of nothing", a, root, 4, api.ErrTrie)
}

// A hop is what its word is, as long as there is one.
func TestNextTellsTheWord(t *testing.T) {
	a := made(t, 200)
	results := block(t, a, 0, 0)
	root := node(t, a, 1, 0, results, 0)
	for _, x := range []uint32{0, 255, 256, 1<<31 - 1, 1 << 31, math.MaxUint32} {
		put(t, a, results, 0, x)
		steps(t, a, begin(t, four(10), root), api.Seek{Hop: int(x), Found: true, Over: true})
		h, found, err := trie.Lookup(a, root, four(10))
		if h != row(four(), 0, int(x)) || !found || err != api.OK {
			t.Errorf("Lookup: %v, %t, %d", h, found, err)
		}
	}
}

func TestLookup(t *testing.T) {
	l := layOne(t)
	for _, q := range []struct {
		x    api.Addr
		want api.Row
	}{
		{four(), row(four(), 0, 1)},
		{four(127, 255, 255, 255), row(four(), 0, 1)},
		{four(128), row(four(128), 1, 2)},
		{four(0xdf, 255, 255, 255), row(four(128), 1, 2)},
		{four(0xe0), row(four(0xe0), 3, 3)},
		{four(0xf0, 0, 0, 2), row(four(0xe0), 3, 3)},
		{four(0xf0, 0, 0, 0x11), row(four(0xe0), 3, 3)},
		{four(0xf0, 0, 0, 1), row(four(0xf0, 0, 0, 1), 32, 6)},
		{four(0x1f, 255), row(four(16), 4, 4)},
		{four(0x27, 255), row(four(32), 5, 5)},
		{four(0x28), row(four(), 0, 1)},
		{six(0xf0, 0, 0, 1, 0xff), row(six(0xf0, 0, 0, 1), 32, 6)},
	} {
		h, found, err := trie.Lookup(l.a, l.root, q.x)
		if h != q.want || !found || err != api.OK {
			t.Errorf("Lookup(%v): %v, %t, %d", q.x, h, found, err)
		}
	}
	for _, root := range []int{0, l.one, l.deepest} {
		h, found, err := trie.Lookup(l.a, root, four(10))
		if found != (root != 0) || err != api.OK || (h == api.Row{}) == found {
			t.Errorf("Lookup(%d): %v, %t, %d", root, h, found, err)
		}
	}
	h, found, err := trie.Lookup(l.a, l.parent, four(0x20))
	if h != (api.Row{}) || found || err != api.OK {
		t.Errorf("Lookup of what is not there: %v, %t, %d", h, found, err)
	}
	for _, x := range wrongAddrs() {
		for _, root := range []int{0, l.root, 1, -1} {
			if h, found, err := trie.Lookup(l.a, root, x); h != (api.Row{}) || found || err != api.ErrAddr {
				t.Errorf("Lookup(%v): %v, %t, %d", x, h, found, err)
			}
		}
	}
}

// An error further down leaves nothing of what was found ahead of it; and what is wrong off the way is not asked for.
func TestLookupOfWhatIsWrong(t *testing.T) {
	l := layOne(t)
	put(t, l.a, l.one, 1, 0)
	if h, found, err := trie.Lookup(l.a, l.root, four(0x10)); h != (api.Row{}) || found || err != api.ErrTrie {
		t.Errorf("Lookup: %v, %t, %d", h, found, err)
	}
	for _, x := range []api.Addr{four(), four(0x20), four(0xf0, 0, 0, 1), four(128)} {
		looks(t, l.a, l.root, laidTable(), x)
	}
}

// A lookup takes one step more than the deepest depth at most, even where the nodes go round.
func TestLookupEnds(t *testing.T) {
	a := made(t, 200)
	root := node(t, a, 0, 1<<16-1, 0, 17)
	kids := block(t, a, 4)
	put(t, a, root, 2, uint32(kids))
	for i := range 16 {
		put(t, a, kids, i, uint32(root))
	}
	for _, x := range []api.Addr{four(full(4)...), six(10)} {
		s, n := begin(t, x, root), 0
		for ; !s.Over; n++ {
			next, err := trie.Next(a, s)
			if err != api.OK {
				t.Fatalf("step %d: %d", n, err)
			}
			s = next
		}
		if n != widthOf(x.Version)/4+1 || s.Depth != widthOf(x.Version)/4 || s.Found || s.Place != 0 {
			t.Errorf("%d steps, %v", n, s)
		}
		if h, found, err := trie.Lookup(a, root, x); h != (api.Row{}) || found || err != api.OK {
			t.Errorf("Lookup: %v, %t, %d", h, found, err)
		}
	}
}
