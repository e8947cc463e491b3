package bitmap

import "junctionbox/api"

// A node as words: Inner and Outer share the first one.
const (
	innerBits = 15 // the prefixes of 0 to 3 bits
	outerBits = 16 // the children
	half      = 16 // Outer stands above that many bits
	nodeWords = 3
)

// Encode: P7.4.
func Encode(n api.Node) ([]uint32, api.Errno) {
	if err := Check(n); err != api.OK {
		return nil, err
	}
	return []uint32{n.Inner | n.Outer<<half, n.Results, n.Children}, api.OK
}

// Decode: P7.4.
func Decode(w []uint32) (api.Node, api.Errno) {
	if len(w) < nodeWords {
		return api.Node{}, api.ErrShort
	}
	n := api.Node{
		Inner:    w[0] & (1<<half - 1),
		Outer:    w[0] >> half,
		Results:  w[1],
		Children: w[2],
	}
	if err := Check(n); err != api.OK {
		return api.Node{}, err
	}
	return n, api.OK
}
