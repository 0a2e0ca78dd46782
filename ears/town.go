package ears

import (
	"iter"
	"math/bits"

	"lampblack/api"
)

// town is a graph that is valid.
type town api.Graph

// newTown returns the town of a graph, or false if the graph is not valid.
func newTown(g api.Graph) (town, bool) {
	if len(g) < 1 || len(g) > api.MaxEars {
		return nil, false
	}
	t := town(g)
	for v, near := range t {
		if near < 0 || near > t.all() || has(near, v) {
			return nil, false
		}
	}
	for v, near := range t {
		for u := range nodes(near) {
			if !has(t[u], v) {
				return nil, false
			}
		}
	}
	return t, true
}

// has reports whether node v is in a set.
func has(set, v int) bool { return set>>v&1 == 1 }

// count returns the number of nodes of a set.
func count(set int) int { return bits.OnesCount(uint(set)) }

// first returns the first node of a set that is not empty.
func first(set int) int { return bits.TrailingZeros(uint(set)) }

// isPart reports whether all nodes of one set are in another.
func isPart(set, other int) bool { return set&^other == 0 }

// nodes goes through the nodes of a set, rising.
func nodes(set int) iter.Seq[int] {
	return func(yield func(v int) bool) {
		for left := set; left != 0; left &= left - 1 {
			if !yield(first(left)) {
				return
			}
		}
	}
}

// all returns the set of all nodes.
func (t town) all() int { return 1<<len(t) - 1 }

// isNode reports whether a number is a node.
func (t town) isNode(v int) bool { return v >= 0 && v < len(t) }

// areNodes reports whether two numbers are different nodes.
func (t town) areNodes(a, b int) bool { return t.isNode(a) && t.isNode(b) && a != b }

// areNeighbours reports whether two numbers are nodes that are neighbours.
func (t town) areNeighbours(a, b int) bool { return t.areNodes(a, b) && has(t[a], b) }

// edges returns all edges, rising.
func (t town) edges() [][2]int {
	var list [][2]int
	for a, near := range t {
		for b := range nodes(near) {
			if a < b {
				list = append(list, [2]int{a, b})
			}
		}
	}
	return list
}

// reach returns the nodes of a set to which a way within it leads from v, one of them.
// The sets near, to which single steps lead, need not be the same in both directions.
func reach(near []int, v, within int) int {
	found := 1 << v
	for {
		wider := found
		for u := range nodes(found) {
			wider |= near[u] & within
		}
		if wider == found {
			return found
		}
		found = wider
	}
}

// isConnected reports whether all nodes of a set are connected within it.
func (t town) isConnected(set int) bool {
	return set == 0 || reach(t, first(set), set) == set
}
