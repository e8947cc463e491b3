package trie_test

import (
	"slices"
	"strings"

	"junctionbox/api"
	"junctionbox/arena"
)

// reading is the chapter's words of a trie read once more, from an arena's words as they lie.
type reading struct {
	words   []uint32
	classes map[int]int // of the blocks that are taken, by their places
}

func readingOf(a *arena.Arena) reading {
	r := reading{words: wordsOf(a), classes: map[int]int{}}
	edge := int(r.words[15])
	for at := 16; at < edge; {
		class := int(r.words[at]-16) / 2
		if r.words[at]%2 == 1 {
			r.classes[at+1] = class
		}
		at += 1 + sizes()[class]
	}
	return r
}

func sizes() []int {
	return []int{1, 2, 4, 8, 16, 32}
}

// texts is the prefixes within a node as they are spelled, in the order of their bits.
func texts() []string {
	list := []string{""}
	for i := 0; len(list) < 15; i++ {
		list = append(list, list[i]+"0", list[i]+"1")
	}
	return list
}

// nibbles is the sixteen nibbles as they are spelled.
func nibbles() []string {
	list := []string{""}
	for range 4 {
		var longer []string
		for _, text := range list {
			longer = append(longer, text+"0", text+"1")
		}
		list = longer
	}
	return list
}

// those is the names whose bits are set.
func those(names []string, set uint32) []string {
	var list []string
	for _, name := range names {
		if set%2 == 1 {
			list = append(list, name)
		}
		set /= 2
	}
	return list
}

// parts is a node as it lies: what it has, and where its words begin.
type parts struct {
	hops, kids        []string
	results, children int
}

// node reads the one at a place.
func (r reading) node(place int) (parts, bool) {
	class, ok := r.classes[place]
	if !ok || class != 2 {
		return parts{}, false
	}
	w := r.words[place : place+4]
	p := parts{
		hops:     those(texts(), w[0]%32768),
		kids:     those(nibbles(), w[0]/65536),
		results:  int(w[1]),
		children: int(w[2]),
	}
	ok = w[0]/32768%2 == 0 && (len(p.hops) == 0) == (w[1] == 0) && (len(p.kids) == 0) == (w[2] == 0)
	return p, ok
}

// alone is whether a nought stands behind the words of the node at a place.
func (r reading) alone(place int) bool {
	return r.words[place+3] == 0
}

// list reads so many words that stand in a block of their own, of the least class.
func (r reading) list(place, n int) ([]uint32, bool) {
	if n == 0 {
		return nil, true
	}
	class, ok := r.classes[place]
	if !ok || class != classFor(n) {
		return nil, false
	}
	w := r.words[place : place+sizes()[class]]
	return w[:n], !slices.ContainsFunc(w[n:], func(x uint32) bool { return x != 0 })
}

// trie reads what is below a place into a table and a list of places. It is false, if that is no trie.
func (r reading) trie(place, version int, path string, m table, places *[]int) bool {
	p, ok := r.node(place)
	deep := len(path) == widthOf(version)
	if !ok || !r.alone(place) || len(p.hops)+len(p.kids) == 0 || deep && (len(p.kids) > 0 || p.hops[len(p.hops)-1] != "") {
		return false
	}
	hops, okHops := r.list(p.results, len(p.hops))
	kids, okKids := r.list(p.children, len(p.kids))
	if !okHops || !okKids {
		return false
	}
	for _, at := range []int{place, p.results, p.children} {
		if slices.Contains(*places, at) {
			return false
		}
		if at != 0 {
			*places = append(*places, at)
		}
	}
	for i, text := range p.hops {
		if hops[i] == 0 || hops[i] > 255 {
			return false
		}
		m[path+text] = int(hops[i])
	}
	for i, text := range p.kids {
		if !r.trie(int(kids[i]), version, path+text, m, places) {
			return false
		}
	}
	return true
}

// all is what the trie at a root is.
func (r reading) all(root, version int) (table, []int, bool) {
	m, places := table{}, []int(nil)
	if root != 0 && !r.trie(root, version, "", m, &places) {
		return nil, nil, false
	}
	slices.Sort(places)
	return m, places, true
}

// next is a seek one node on.
func (r reading) next(s api.Seek) (api.Seek, bool) {
	p, ok := r.node(s.Place)
	if !ok {
		return api.Seek{}, false
	}
	rest := spelled(s.Addr)[4*s.Depth:]
	best := -1
	for i, text := range p.hops {
		if len(text) <= 3 && strings.HasPrefix(rest, text) {
			best = i // longer ones stand behind shorter ones
		}
	}
	if best >= 0 {
		if class, ok := r.classes[p.results]; !ok || sizes()[class] < len(p.hops) {
			return api.Seek{}, false
		}
		s.Found, s.Bits, s.Hop = true, 4*s.Depth+len(p.hops[best]), int(r.words[p.results+best])
	}
	kid := -1
	if rest != "" {
		kid = slices.Index(p.kids, rest[:4])
	}
	if kid < 0 {
		s.Place, s.Over = 0, true
		return s, true
	}
	if class, ok := r.classes[p.children]; !ok || sizes()[class] < len(p.kids) {
		return api.Seek{}, false
	}
	s.Place, s.Depth = int(r.words[p.children+kid]), s.Depth+1
	return s, true
}

// lookup is what comes of it, node by node.
func (r reading) lookup(root int, x api.Addr) (api.Row, bool, bool) {
	s, ok := api.Seek{Addr: x, Place: root, Over: root == 0}, true
	for ok && !s.Over {
		s, ok = r.next(s)
	}
	if !ok || !s.Found {
		return api.Row{}, false, ok
	}
	return api.Row{Prefix: fromBits(x.Version, spelled(x)[:s.Bits]), Hop: s.Hop}, true, true
}
