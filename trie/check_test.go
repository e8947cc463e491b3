package trie_test

import (
	"math"
	"slices"
	"strconv"
	"strings"
	"testing"

	"junctionbox/api"
	"junctionbox/arena"
	"junctionbox/trie"
)

// P8.1

// laid is a trie that is laid by hand, not by Insert: 0.0.0.0/0 to 1, 128.0.0.0/1 to 2, 224.0.0.0/3 to 3; 16.0.0.0/4 to 4 and 32.0.0.0/5 to 5 in two of three children; and in the third one a way to what is at the deepest depth of version 4, 240.0.0.1/32 to 6.
type laid struct {
	a                               *arena.Arena
	root, results, children         int
	one, oneResults                 int // a child with prefixes alone
	three, threeChildren            int // a child with a child alone
	deepest, deepestResults, parent int // the one at the deepest depth, and the one above it
}

func layOne(t *testing.T) laid {
	t.Helper()
	l := laid{a: made(t, 400)}
	l.oneResults = block(t, l.a, 0, 4)
	l.one = node(t, l.a, 1, 0, l.oneResults, 0)
	two := node(t, l.a, 2, 0, block(t, l.a, 0, 5), 0)
	l.deepestResults = block(t, l.a, 0, 6)
	l.deepest = node(t, l.a, 1, 0, l.deepestResults, 0)
	below := l.deepest
	for depth, nibble := range []int{1, 0, 0, 0, 0, 0, 0} {
		l.threeChildren = block(t, l.a, 0, uint32(below))
		below = node(t, l.a, 0, 1<<nibble, 0, l.threeChildren)
		if depth == 0 {
			l.parent = below
		}
	}
	l.three = below
	l.results = block(t, l.a, 2, 1, 2, 3)
	l.children = block(t, l.a, 2, uint32(l.one), uint32(two), uint32(l.three))
	l.root = node(t, l.a, 1+1<<2+1<<14, 1<<1+1<<2+1<<15, l.results, l.children)
	return l
}

func laidTable() table {
	return table{"": 1, "1": 2, "111": 3, "0001": 4, "00100": 5, "1111" + strings.Repeat("0", 27) + "1": 6}
}

func TestCheckOfWhatIsLaid(t *testing.T) {
	l := layOne(t)
	m, places, ok := readingOf(l.a).all(l.root, 4)
	if !ok || len(m) != 6 || !slices.Equal(places, taken(l.a)) {
		t.Fatalf("the test's own trie is none: %v, %v", m, places)
	}
	for text, hop := range laidTable() {
		if m[text] != hop {
			t.Fatalf("the test's own trie has %v", m)
		}
	}
	stays(t, l.a, "Check", func() {
		holds(t, l.a, l.root, 4, laidTable())
		holds(t, l.a, l.one, 4, table{"": 4})
		holds(t, l.a, l.one, 6, table{"": 4})
		holds(t, l.a, l.deepest, 4, table{"": 6})
	})
	// What is deep of version 4 is not yet of version 6.
	holds(t, l.a, l.root, 6, laidTable())
}

func TestCheckOfNothing(t *testing.T) {
	for _, version := range []int{4, 6} {
		for _, a := range []*arena.Arena{made(t, 64), layOne(t).a} {
			is(t, "Check at 0", trie.Check(a, 0, version), api.OK)
			rows, err := trie.Walk(a, 0, version)
			places, err2 := trie.Reach(a, 0, version)
			if rows != nil || places != nil || err != api.OK || err2 != api.OK {
				t.Errorf("Walk, Reach at 0: %v, %v, %d, %d", rows, places, err, err2)
			}
		}
	}
}

// refused fails a test, if a call does not refuse a root, each in its own way.
func refused(t *testing.T, what string, a *arena.Arena, root, version int, want api.Errno) {
	t.Helper()
	if err := trie.Check(a, root, version); err != want {
		t.Errorf("%s: Check(%d, %d): %d, not %d", what, root, version, err, want)
	}
	if rows, err := trie.Walk(a, root, version); err != want || rows != nil {
		t.Errorf("%s: Walk(%d, %d): %v, %d, not %d", what, root, version, rows, err, want)
	}
	if places, err := trie.Reach(a, root, version); err != want || places != nil {
		t.Errorf("%s: Reach(%d, %d): %v, %d, not %d", what, root, version, places, err, want)
	}
	if want != api.ErrTrie {
		return
	}
	p := pre(addrOf(version, 10), 8)
	if next, retired, err := trie.Insert(a, root, api.Row{Prefix: p, Hop: 3}); next != 0 || retired != nil || err != want {
		t.Errorf("%s: Insert(%d): %d, %v, %d, not %d", what, root, next, retired, err, want)
	}
	if next, retired, err := trie.Delete(a, root, p); next != 0 || retired != nil || err != want {
		t.Errorf("%s: Delete(%d): %d, %v, %d, not %d", what, root, next, retired, err, want)
	}
}

func TestVersionsThatAreNone(t *testing.T) {
	l := layOne(t)
	for _, version := range wrongVersions() {
		for _, root := range []int{0, l.root, l.one, 17, -1, math.MaxInt} {
			refused(t, "the version", l.a, root, version, api.ErrArg)
		}
	}
}

func TestNilAheadOfAllElse(t *testing.T) {
	for _, version := range append(wrongVersions(), 4, 6) {
		for _, root := range []int{0, 17, -1} {
			refused(t, "nil", nil, root, version, api.ErrNil)
		}
	}
	for _, p := range append(wrongPrefixes(), pre(four(10), 8)) {
		for _, hop := range []int{0, 3, 256} {
			next, retired, err := trie.Insert(nil, 0, api.Row{Prefix: p, Hop: hop})
			if next != 0 || retired != nil || err != api.ErrNil {
				t.Errorf("Insert of nil: %d, %v, %d", next, retired, err)
			}
		}
		next, retired, err := trie.Delete(nil, 17, p)
		if next != 0 || retired != nil || err != api.ErrNil {
			t.Errorf("Delete of nil: %d, %v, %d", next, retired, err)
		}
	}
	for _, x := range append(wrongAddrs(), four(10)) {
		if h, found, err := trie.Lookup(nil, 0, x); h != (api.Row{}) || found || err != api.ErrNil {
			t.Errorf("Lookup of nil: %v, %t, %d", h, found, err)
		}
		for _, s := range []api.Seek{{Addr: x}, {Addr: x, Depth: -1}, {Addr: x, Over: true}} {
			if got, err := trie.Next(nil, s); got != (api.Seek{}) || err != api.ErrNil {
				t.Errorf("Next of nil: %v, %d", got, err)
			}
		}
	}
}

func TestRootsThatAreNoBlock(t *testing.T) {
	l := layOne(t)
	giveBack(t, l.a, []int{l.one})
	for _, version := range []int{4, 6} {
		for _, root := range wrongPlaces(l.a) {
			if root != 0 {
				refused(t, "no block", l.a, root, version, api.ErrTrie)
			}
		}
		refused(t, "a child that is free", l.a, l.root, version, api.ErrTrie)
	}
	is(t, "Check at 17 of a new arena", trie.Check(made(t, 64), 17, 4), api.ErrTrie)
}

func TestRootsOfAnotherClass(t *testing.T) {
	for class := range 6 {
		a := made(t, 100)
		results := block(t, a, 0, 7)
		root := block(t, a, class, 1)
		if class >= 2 {
			put(t, a, root, 1, uint32(results))
		}
		if class == 2 {
			holds(t, a, root, 4, table{"": 7})
		} else {
			refused(t, "a root of the class "+strconv.Itoa(class), a, root, 4, api.ErrTrie)
		}
	}
}

// wrong is what is done to the trie that is laid, so that it is none any more.
type wrong struct {
	what string
	do   func(t *testing.T, l *laid)
}

func wrongs() []wrong {
	set := func(what string, at func(l *laid) int, i int, x uint32) wrong {
		return wrong{what, func(t *testing.T, l *laid) { put(t, l.a, at(l), i, x) }}
	}
	root := func(l *laid) int { return l.root }
	one := func(l *laid) int { return l.one }
	three := func(l *laid) int { return l.three }
	results := func(l *laid) int { return l.results }
	children := func(l *laid) int { return l.children }
	deepest := func(l *laid) int { return l.deepest }
	return []wrong{
		set("Inner with the bit 15", one, 0, 1<<15+1),
		set("Inner with the bit 15 alone", one, 0, 1<<15),
		set("Results without Inner", one, 0, 0),
		set("Inner without Results", one, 1, 0),
		set("Children without Outer", one, 2, 17),
		set("Outer without Children", three, 2, 0),
		set("Outer of two, with one child", three, 0, 3<<16),
		set("a fourth word", one, 3, 1),
		set("a fourth word of the root", root, 3, 1<<31),
		set("a hop of 0", results, 1, 0),
		set("a hop of 0, the first one", results, 0, 0),
		set("a hop of 256", results, 2, 256),
		set("a hop of 2^32 - 1", results, 0, math.MaxUint32),
		set("something behind the results", results, 3, 1),
		set("something behind the results that leads to a node", results, 3, 18),
		set("something behind the children", children, 3, 1),
		set("a child that is 0", children, 1, 0),
		set("a child beyond the arena", children, 1, 1<<20),
		set("a child at the greatest number", children, 1, math.MaxUint32),
		set("results beyond the arena", one, 1, 400),
		set("results at the greatest number", one, 1, math.MaxUint32),
		set("results in the head of the arena", one, 1, 15),
		set("children beyond the arena", three, 2, 1<<30),
		set("the deepest one with another prefix", deepest, 0, 2),
		{"a node with neither", func(t *testing.T, l *laid) {
			put(t, l.a, l.one, 0, 0)
			put(t, l.a, l.one, 1, 0)
		}},
		{"the deepest one with neither", func(t *testing.T, l *laid) {
			put(t, l.a, l.deepest, 0, 0)
			put(t, l.a, l.deepest, 1, 0)
		}},
		{"the deepest one with a prefix of 1 bit beside", func(t *testing.T, l *laid) {
			put(t, l.a, l.deepest, 0, 3)
			put(t, l.a, l.deepest, 1, uint32(block(t, l.a, 1, 6, 7)))
		}},
		{"the deepest one with a child", func(t *testing.T, l *laid) {
			below := node(t, l.a, 1, 0, block(t, l.a, 0, 9), 0)
			put(t, l.a, l.deepest, 0, 1+1<<16)
			put(t, l.a, l.deepest, 2, uint32(block(t, l.a, 0, uint32(below))))
		}},
		{"the deepest one with a child and no prefix", func(t *testing.T, l *laid) {
			below := node(t, l.a, 1, 0, block(t, l.a, 0, 9), 0)
			put(t, l.a, l.deepest, 0, 1<<16)
			put(t, l.a, l.deepest, 1, 0)
			put(t, l.a, l.deepest, 2, uint32(block(t, l.a, 0, uint32(below))))
		}},
		{"results that are too short", func(t *testing.T, l *laid) {
			put(t, l.a, l.root, 1, uint32(block(t, l.a, 1, 1, 2)))
		}},
		{"results of a class above", func(t *testing.T, l *laid) {
			put(t, l.a, l.root, 1, uint32(block(t, l.a, 3, 1, 2, 3)))
		}},
		{"children that are too short", func(t *testing.T, l *laid) {
			put(t, l.a, l.root, 2, uint32(block(t, l.a, 1, uint32(l.one), uint32(l.three))))
		}},
		{"children of a class above", func(t *testing.T, l *laid) {
			x, _ := l.a.Load(l.children, 1)
			put(t, l.a, l.root, 2, uint32(block(t, l.a, 3, uint32(l.one), x, uint32(l.three))))
		}},
		{"results that are free", func(t *testing.T, l *laid) { giveBack(t, l.a, []int{l.oneResults}) }},
		{"children that are free", func(t *testing.T, l *laid) { giveBack(t, l.a, []int{l.children}) }},
		{"the root is free", func(t *testing.T, l *laid) { giveBack(t, l.a, []int{l.root}) }},
		{"a child of another class", func(t *testing.T, l *laid) {
			put(t, l.a, l.children, 0, uint32(block(t, l.a, 3, 1, uint32(l.oneResults))))
		}},
		{"a node reached twice", func(t *testing.T, l *laid) { put(t, l.a, l.children, 1, uint32(l.one)) }},
		{"results reached twice", func(t *testing.T, l *laid) { put(t, l.a, l.one, 1, uint32(l.deepestResults)) }},
		{"children reached twice", func(t *testing.T, l *laid) {
			put(t, l.a, l.children, 1, uint32(node(t, l.a, 0, 2, 0, l.threeChildren)))
		}},
		{"a node that is the results of another one", func(t *testing.T, l *laid) {
			put(t, l.a, l.root, 1, uint32(l.one))
		}},
		{"a way that goes round", func(t *testing.T, l *laid) { put(t, l.a, l.threeChildren, 0, uint32(l.root)) }},
	}
}

func TestCheckOfWhatIsWrong(t *testing.T) {
	for _, q := range wrongs() {
		l := layOne(t)
		q.do(t, &l)
		if _, _, ok := readingOf(l.a).all(l.root, 4); ok {
			t.Fatalf("%s: the test's own reading finds nothing wrong", q.what)
		}
		stays(t, l.a, q.what, func() {
			refused(t, q.what, l.a, l.root, 4, api.ErrTrie)
		})
	}
}

// Nodes that are reached many times, each by each: who does not look for that comes to no end.
func TestCheckOfWhatIsReachedAgainAndAgain(t *testing.T) {
	a := made(t, 2000)
	below := node(t, a, 1, 0, block(t, a, 0, 9), 0)
	for range 32 {
		words := slices.Repeat([]uint32{uint32(below)}, 16)
		below = node(t, a, 0, 1<<16-1, 0, block(t, a, 4, words...))
	}
	refused(t, "again and again", a, below, 6, api.ErrTrie)
	self := node(t, a, 0, 1<<16-1, 0, 17)
	put(t, a, self, 2, uint32(block(t, a, 4, slices.Repeat([]uint32{uint32(self)}, 16)...)))
	refused(t, "itself", a, self, 6, api.ErrTrie)
	refused(t, "itself", a, self, 4, api.ErrTrie)
}

// Each count of results, and of children, from one to the most, in the block of the least class and in others.
func TestCheckOfEachCount(t *testing.T) {
	for n := 1; n <= 16; n++ {
		for class := range 6 {
			a := made(t, 1000)
			if sizes()[class] < n {
				continue
			}
			want := api.OK
			if class != classFor(n) {
				want = api.ErrTrie
			}
			var hops, kids []uint32
			for i := range n {
				hops = append(hops, uint32(255-i))
				kids = append(kids, uint32(node(t, a, 1, 0, block(t, a, 0, uint32(i+1)), 0)))
			}
			if n < 16 {
				is(t, "results", trie.Check(a, node(t, a, 1<<n-1, 0, block(t, a, class, hops...), 0), 4), want)
			}
			is(t, "children", trie.Check(a, node(t, a, 0, 1<<n-1, 0, block(t, a, class, kids...)), 6), want)
		}
	}
}

// values are what a word may be changed to: each small number, and those at edges.
func values(edge int, x uint32) []uint32 {
	all := []uint32{x + 1, x - 1, 1<<15 + x, x ^ 1<<16, x ^ 1<<31, x ^ 1, x ^ 2, 255, 256, 1 << 14, 1 << 15, 1<<16 - 1, 1 << 16, 1<<16 + 1, 3 << 16, 1<<32 - 1, 1 << 31, 1<<31 + 17}
	for k := range edge + 2 {
		all = append(all, uint32(k))
	}
	return all
}

// Whatever one word of a trie becomes: each call answers what a second reading of the chapter tells.
func TestEachWordChanged(t *testing.T) {
	d := dice(81)
	for round := range 6 {
		version := 4 + 2*(round%2)
		a, root := made(t, 700), 0
		for k := range []int{2, 3, 5}[round/2] {
			p := d.prefix(version)
			if version == 6 && p.Bits > 24 {
				p = fromBits(6, begun(p)[:12+k])
			}
			root = insert(t, a, root, api.Row{Prefix: p, Hop: 1 + d.roll(255)})
		}
		edge, wrongs := int(wordsOf(a)[15]), 0
		for _, place := range reach(t, a, root, version) {
			class, _ := a.Class(place)
			for i := range sizes()[class] {
				was, _ := a.Load(place, i)
				for _, x := range values(edge, was) {
					put(t, a, place, i, x)
					if !agrees(t, a, root, version, d.addr(version)) {
						wrongs++
					}
				}
				put(t, a, place, i, was)
			}
		}
		if wrongs < 500 {
			t.Errorf("only %d tries were wrong", wrongs)
		}
	}
}

// agrees holds what is told of a root against a second reading, and is whether that is a trie.
func agrees(t *testing.T, a *arena.Arena, root, version int, x api.Addr) bool {
	t.Helper()
	r := readingOf(a)
	m, places, ok := r.all(root, version)
	want := api.OK
	if !ok {
		want = api.ErrTrie
	}
	if err := trie.Check(a, root, version); err != want {
		t.Fatalf("Check: %d, not %d", err, want)
	}
	if rows, err := trie.Walk(a, root, version); err != want || !slices.Equal(rows, m.rows(version)) {
		t.Fatalf("Walk: %v, %d, not %v, %d", rows, err, m.rows(version), want)
	}
	if got, err := trie.Reach(a, root, version); err != want || !slices.Equal(got, places) {
		t.Fatalf("Reach: %v, %d, not %v, %d", got, err, places, want)
	}
	h, found, err := trie.Lookup(a, root, x)
	wantRow, wantFound, right := r.lookup(root, x)
	if h != wantRow || found != wantFound || (err == api.OK) != right || err != api.OK && err != api.ErrTrie {
		t.Fatalf("Lookup(%v): %v, %t, %d, not %v, %t, %t", x, h, found, err, wantRow, wantFound, right)
	}
	return ok
}
