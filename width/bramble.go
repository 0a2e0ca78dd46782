package width

import (
	"maps"
	"slices"
)

// maxBramble is the greatest number of sets of a bramble.
const maxBramble = 200

// isBramble reports whether l, which may be any slice, is a bramble.
func (t town) isBramble(l []int) bool {
	if len(l) < 1 || len(l) > maxBramble {
		return false
	}
	for i, a := range l {
		if !t.isConnected(a) {
			return false
		}
		for _, b := range l[:i] {
			if !t.touch(a, b) {
				return false
			}
		}
	}
	return true
}

// cover returns, of the covers of a bramble with the fewest nodes, the least one.
func (t town) cover(l []int) int {
	return t.leastSet(func(set int) bool {
		return !slices.ContainsFunc(l, func(b int) bool { return set&b == 0 })
	})
}

// bramble returns a bramble that no set of so many nodes covers, where the town has no
// tree decomposition with bags of at most so many nodes.
//
// It goes through the connected sets, small ones first, and takes each one for split up
// already, unless the whole town could then be split up: such a set is kept. Sets that
// contain a kept one are left out.
//
// Why the kept sets are a bramble: the rest of the town around any set of so many nodes
// has a part that contains a kept set, else that set would split up the town. And each
// kept set has a tree in which it alone is not split up; if two of them did not touch,
// their trees could be joined along a least cut between the two, to one without both.
//
// No kept set contains another one, so there are at most 126 of them in nine nodes.
func (t town) bramble(size int) []int {
	var kept []int
	split := map[int]bool{}
	for _, set := range t.flaps(size) {
		if slices.ContainsFunc(kept, func(k int) bool { return isPart(k, set) }) {
			continue
		}
		tried := maps.Clone(split)
		tried[set] = true
		if t.splits(tried, size) {
			kept = append(kept, set)
		} else {
			split = tried
		}
	}
	return kept
}

// flaps returns the connected sets that at most so many nodes cut off, those with fewer
// nodes first.
func (t town) flaps(size int) []int {
	var list []int
	for set := range t.all() + 1 {
		if t.isConnected(set) && count(t.around(set)) <= size {
			list = append(list, set)
		}
	}
	slices.SortStableFunc(list, func(a, b int) int { return count(a) - count(b) })
	return list
}

// splits reports whether the town has a tree with bags of at most so many nodes, apart
// from leaves that are for the sets known to be split up.
func (t town) splits(known map[int]bool, size int) bool {
	known = maps.Clone(known)
	var done func(set int) bool
	// A connected set is split up if there is room for one of its nodes in a bag with the
	// nodes around it, and what is left of it is split up. Greater bags take one node
	// after the other.
	done = func(set int) bool {
		if is, ok := known[set]; ok {
			return is
		}
		is := false
		room := count(t.around(set)) < size
		for v := 0; v < len(t) && room && !is; v++ {
			is = has(set, v) && every(t.parts(set&^(1<<v)), done)
		}
		known[set] = is
		return is
	}
	return every(t.parts(t.all()), done)
}

// every reports whether something is so of each of some sets.
func every(sets []int, is func(set int) bool) bool {
	for _, set := range sets {
		if !is(set) {
			return false
		}
	}
	return true
}
