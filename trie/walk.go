package trie

import (
	"iter"

	"junctionbox/api"
	"junctionbox/arena"
	"junctionbox/bitmap"
)

// stop is a node of a trie: where it is, the nibbles that lead there (noughts behind them), and the words that it leads to.
type stop struct {
	place, depth   int
	addr           api.Addr
	node           api.Node
	hops, children []uint32
}

// walk is a way through a whole trie. It knows which blocks it has met: without that, blocks that are reached again and again would have it go on for ever so long.
type walk struct {
	a   *arena.Arena
	met map[int]struct{}
}

// through is all nodes of the trie of a version at a root.
func through(a *arena.Arena, root, version int) ([]stop, api.Errno) {
	switch {
	case a == nil:
		return nil, api.ErrNil
	case deepest(version) == 0:
		return nil, api.ErrArg
	case root == 0:
		return nil, api.OK
	}
	w := walk{a: a, met: map[int]struct{}{}}
	var stops []stop
	for s, ok := range w.nodes(stop{place: root, addr: api.Addr{Version: version}}) {
		if !ok {
			return nil, api.ErrTrie
		}
		stops = append(stops, s)
	}
	return stops, api.OK
}

// nodes tells the node at a stop's place, and then all that are below it. One that is not as it has to be is told as false; who goes through it leaves there.
func (w walk) nodes(at stop) iter.Seq2[stop, bool] {
	return func(yield func(stop, bool) bool) {
		here, ok := w.read(at)
		if !yield(here, ok) {
			return
		}
		for i, nibble := range bitmap.Bits(here.node.Outer) {
			child := stop{place: int(here.children[i]), depth: here.depth + 1, addr: withNibble(here.addr, here.depth, nibble)}
			for s, ok := range w.nodes(child) {
				if !yield(s, ok) {
					return
				}
			}
		}
	}
}

// read is the stop with what stands there.
func (w walk) read(at stop) (stop, bool) {
	n, ok := aloneAt(w.a, at.place)
	if !ok || !mayStand(n, deepest(at.addr.Version)-at.depth) {
		return stop{}, false
	}
	hops, okHops := rowAt(w.a, n.Results, n.Inner)
	children, okChildren := rowAt(w.a, n.Children, n.Outer)
	if !okHops || !okChildren || !areHops(hops...) {
		return stop{}, false
	}
	at.node, at.hops, at.children = n, hops, children
	return at, w.first(at.blocks()...)
}

// first is whether none of these blocks was met; they are then.
func (w walk) first(places ...int) bool {
	for _, place := range places {
		if _, again := w.met[place]; again {
			return false
		}
		w.met[place] = struct{}{}
	}
	return true
}

// mayStand is whether a trie may have such a node, so many nodes above the deepest ones.
func mayStand(n api.Node, above int) bool {
	if above == 0 {
		return n.Inner == 1 && n.Outer == 0 // the prefix of 0 bits alone: an address has none behind it
	}
	return n.Inner != 0 || n.Outer != 0
}

func areHops(words ...uint32) bool {
	for _, x := range words {
		if x < 1 || x > api.MaxHop {
			return false
		}
	}
	return true
}

// blocks is the places of the node's blocks.
func (s stop) blocks() []int {
	list := []int{s.place}
	for _, place := range []uint32{s.node.Results, s.node.Children} {
		if place != none {
			list = append(list, int(place))
		}
	}
	return list
}

// rows is the prefixes within the node, with their hops.
func (s stop) rows() []api.Row {
	var rows []api.Row
	for i, bit := range bitmap.Bits(s.node.Inner) {
		k, value := within(bit)
		rows = append(rows, api.Row{
			Prefix: api.Prefix{Addr: withNibble(s.addr, s.depth, value<<(nibbleBits-k)), Bits: nibbleBits*s.depth + k},
			Hop:    int(s.hops[i]),
		})
	}
	return rows
}

// withNibble is an address whose i-th nibble was a nought. A nought changes nothing, behind its last nibble neither.
func withNibble(x api.Addr, i, nibble int) api.Addr {
	if nibble != 0 {
		x.Bytes[i/2] |= byte(nibble << (nibbleBits - i%2*nibbleBits))
	}
	return x
}
