package like

import (
	"iter"
	"math/bits"

	"lampblack/api"
)

// town is a graph that is valid.
type town api.Graph

// newTown returns the town of a graph, or false if the graph is not valid.
func newTown(g api.Graph) (town, bool) {
	if len(g) < 1 || len(g) > api.MaxLike {
		return nil, false
	}
	t := town(g)
	for v, near := range t {
		if near < 0 || near > t.all() || has(near, v) {
			return nil, false
		}
	}
	for v, near := range t {
		for u := range nodes(near) {
			if !has(t[u], v) {
				return nil, false
			}
		}
	}
	return t, true
}

// has reports whether node v is in a set.
func has(set, v int) bool { return set>>v&1 == 1 }

// nodes goes through the nodes of a set, rising.
func nodes(set int) iter.Seq[int] {
	return func(yield func(v int) bool) {
		for left := set; left != 0; left &= left - 1 {
			if !yield(bits.TrailingZeros(uint(left))) {
				return
			}
		}
	}
}

// all returns the set of all nodes.
func (t town) all() int { return 1<<len(t) - 1 }

// areNodes reports whether numbers are nodes.
func (t town) areNodes(list []int) bool {
	for _, v := range list {
		if v < 0 || v >= len(t) {
			return false
		}
	}
	return true
}

// bond is how two nodes are to each other.
type bond struct{ same, near bool }

// bond returns how two nodes are to each other.
func (t town) bond(a, b int) bond { return bond{a == b, has(t[a], b)} }

// pair is two towns.
type pair struct{ g, h town }

// newPair returns the pair of two graphs, or false if one is not valid.
func newPair(g, h api.Graph) (pair, bool) {
	first, isFirst := newTown(g)
	second, isSecond := newTown(h)
	return pair{first, second}, isFirst && isSecond
}

// agree reports whether node u of g is to each of the nodes a as node v of h is to each of
// the nodes b.
func (p pair) agree(a, b []int, u, v int) bool {
	for i := range a {
		if p.g.bond(a[i], u) != p.h.bond(b[i], v) {
			return false
		}
	}
	return true
}
