package trie

import (
	"slices"

	"junctionbox/api"
	"junctionbox/arena"
	"junctionbox/bitmap"
	"junctionbox/prefix"
)

// spot is a node on the way down to that of a prefix, which is the last one; of a node that is not there all is zero but the bit: of Outer that of the node below, of the last one that of the prefix, of Inner.
type spot struct {
	place int
	node  api.Node
	bit   int
}

// maker is a change under way: the blocks that it has taken, and those in whose place they come.
type maker struct {
	a              *arena.Arena
	taken, retired []int
}

// wayTo is the way from the root of a trie down to a prefix's node.
func wayTo(a *arena.Arena, root int, p api.Prefix) []spot {
	way := make([]spot, p.Bits/nibbleBits+1)
	place := root
	for depth := range way {
		n, _ := nodeAt(a, place)
		bit := prefix.Nibble(p.Addr, depth)
		way[depth] = spot{place: place, node: n, bit: bit}
		place = childAt(a, n, bit)
	}
	last, k := &way[len(way)-1], p.Bits%nibbleBits
	last.bit, _ = bitmap.Index(k, last.bit>>(nibbleBits-k))
	return way
}

func childAt(a *arena.Arena, n api.Node, bit int) int {
	if !bitmap.Has(n.Outer, bit) {
		return none
	}
	child, _ := wordOf(a, n.Children, n.Outer, bit)
	return int(child)
}

// hopAt is the hop of the prefix that a way leads to.
func hopAt(a *arena.Arena, way []spot) uint32 {
	last := way[len(way)-1]
	if !bitmap.Has(last.node.Inner, last.bit) {
		return none
	}
	hop, _ := wordOf(a, last.node.Results, last.node.Inner, last.bit)
	return hop
}

// change makes a way anew, from the prefix's node up, so that the prefix has that hop.
func change(a *arena.Arena, way []spot, hop uint32) (root int, retired []int, err api.Errno) {
	m := maker{a: a}
	defer func() {
		if err != api.OK {
			m.giveBack()
			root, retired = none, nil
		}
	}()
	last := len(way) - 1
	root, err = m.withHop(way[last], hop)
	for _, s := range slices.Backward(way[:last]) {
		if err == api.OK {
			root, err = m.withChild(s, root)
		}
	}
	return root, m.retired, err
}

// withHop makes the prefix's node anew.
func (m *maker) withHop(s spot, hop uint32) (int, api.Errno) {
	n := s.node
	var err api.Errno
	n.Inner, n.Results, err = m.row(n.Inner, n.Results, s.bit, hop)
	if err != api.OK {
		return none, err
	}
	return m.node(s, n)
}

// withChild makes a node anew above one that stands elsewhere now, or nowhere.
func (m *maker) withChild(s spot, child int) (int, api.Errno) {
	n := s.node
	var err api.Errno
	n.Outer, n.Children, err = m.row(n.Outer, n.Children, s.bit, uint32(child))
	if err != api.OK {
		return none, err
	}
	return m.node(s, n)
}

// row makes the words of a set's bits anew, with x as that of one bit, or without that bit, if x is none.
func (m *maker) row(set, place uint32, bit int, x uint32) (uint32, uint32, api.Errno) {
	words, _ := rowAt(m.a, place, set)
	m.retire(int(place))
	at := bitmap.Rank(set, bit)
	end := at + count(set) - count(bitmap.Without(set, bit))
	if x == none {
		set, words = bitmap.Without(set, bit), spliced(words, at, end)
	} else {
		set, words = bitmap.With(set, bit), spliced(words, at, end, x)
	}
	made, err := m.take(words...)
	return set, uint32(made), err
}

// node makes the node of a spot anew: none, if it has neither prefix nor child.
func (m *maker) node(s spot, n api.Node) (int, api.Errno) {
	m.retire(s.place)
	if n.Inner == 0 && n.Outer == 0 {
		return none, api.OK
	}
	words, _ := bitmap.Encode(n)
	return m.take(words...)
}

// take takes a block for words; for none there is none.
func (m *maker) take(words ...uint32) (int, api.Errno) {
	if len(words) == 0 {
		return none, api.OK
	}
	place, err := m.a.Alloc(classOf(len(words)))
	if err != api.OK {
		return none, err
	}
	m.taken = append(m.taken, place)
	for i, x := range words {
		m.a.Store(place, i, x)
	}
	return place, api.OK
}

func (m *maker) retire(place int) {
	if place != none {
		m.retired = append(m.retired, place)
	}
}

// giveBack undoes what was taken. The last one goes first, so that the free lists begin as they did.
func (m *maker) giveBack() {
	for _, place := range slices.Backward(m.taken) {
		m.a.Free(place)
	}
}

// spliced is words with others in the place of those from at to end.
func spliced(words []uint32, at, end int, others ...uint32) []uint32 {
	return slices.Concat(words[:at], others, words[end:])
}
