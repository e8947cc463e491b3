package route

import (
	"cmp"
	"slices"

	"junctionbox/api"
	"junctionbox/prefix"
)

// order tells which of two candidates stands ahead: -1 the one, 1 the other one, 0 neither.
type order func(x, y api.Route) int

// rising is the order in which a RIB has its candidates.
func rising() order {
	return by(byPrefix, bySource)
}

// bestFirst is an order in which the first one of each prefix is its best.
func bestFirst() order {
	return by(byPrefix, byPref, bySource)
}

// by is the order of the first of these that tells two apart.
func by(orders ...order) order {
	return func(x, y api.Route) int {
		for _, o := range orders {
			if turn := o(x, y); turn != 0 {
				return turn
			}
		}
		return 0
	}
}

func byPrefix(x, y api.Route) int {
	return prefix.Compare(x.Prefix, y.Prefix)
}

func bySource(x, y api.Route) int {
	return cmp.Compare(x.Source, y.Source)
}

// byPref has the greater one ahead.
func byPref(x, y api.Route) int {
	return cmp.Compare(y.Pref, x.Pref)
}

// firsts is the first one of each prefix, of candidates of which those of one prefix stand together.
func firsts(l []api.Route) []api.Route {
	return slices.CompactFunc(slices.Clone(l), func(x, y api.Route) bool { return x.Prefix == y.Prefix })
}
