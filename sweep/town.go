package sweep

import (
	"iter"
	"math/bits"

	"lampblack/api"
)

// town is a graph that is valid.
type town api.Graph

// newTown returns the town of a graph, or false if the graph is not valid.
func newTown(g api.Graph) (town, bool) {
	if len(g) < 1 || len(g) > api.MaxSweep {
		return nil, false
	}
	t := town(g)
	for v, near := range t {
		if !t.isSet(near) || has(near, v) {
			return nil, false
		}
	}
	for v, near := range t {
		for u := range nodes(near) {
			if !has(t[u], v) {
				return nil, false
			}
		}
	}
	return t, true
}

// has reports whether node v is in a set.
func has(set, v int) bool { return set>>v&1 == 1 }

// count returns the number of nodes of a set.
func count(set int) int { return bits.OnesCount(uint(set)) }

// isPart reports whether all nodes of one set are in another.
func isPart(set, other int) bool { return set&^other == 0 }

// nodes goes through the nodes of a set, rising.
func nodes(set int) iter.Seq[int] {
	return func(yield func(v int) bool) {
		for left := set; left != 0; left &= left - 1 {
			if !yield(bits.TrailingZeros(uint(left))) {
				return
			}
		}
	}
}

// all returns the set of all nodes.
func (t town) all() int { return 1<<len(t) - 1 }

// isSet reports whether a number is a set of nodes.
func (t town) isSet(set int) bool { return set >= 0 && set <= t.all() }

// isNode reports whether a number is a node.
func (t town) isNode(v int) bool { return v >= 0 && v < len(t) }

// border returns the nodes of a set that have a neighbour outside of it.
func (t town) border(set int) int {
	border := 0
	for v := range nodes(set) {
		if !isPart(t[v], set) {
			border |= 1 << v
		}
	}
	return border
}
