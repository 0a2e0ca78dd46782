package width

import (
	"math/bits"

	"lampblack/api"
)

// town is a graph that is valid.
type town api.Graph

// newTown returns the town of a graph, or false if the graph is not valid.
func newTown(g api.Graph) (town, bool) {
	if len(g) < 1 || len(g) > api.MaxWidth {
		return nil, false
	}
	t := town(g)
	for v, near := range t {
		if !t.isSet(near) || has(near, v) {
			return nil, false
		}
	}
	for v := range t {
		for u := range t {
			if has(t[v], u) != has(t[u], v) {
				return nil, false
			}
		}
	}
	return t, true
}

// has reports whether node v is in a set.
func has(set, v int) bool { return set>>v&1 == 1 }

// count returns the number of nodes of a set.
func count(set int) int { return bits.OnesCount(uint(set)) }

// isPart reports whether all nodes of one set are in another.
func isPart(set, other int) bool { return set&^other == 0 }

// all returns the set of all nodes.
func (t town) all() int { return 1<<len(t) - 1 }

// isSet reports whether a number is a set of nodes.
func (t town) isSet(set int) bool { return set >= 0 && set <= t.all() }

// isNode reports whether a number is a node.
func (t town) isNode(v int) bool { return v >= 0 && v < len(t) }

// around returns the nodes that are not in a set and have a neighbour in it.
func (t town) around(set int) int {
	near := 0
	for v := range t {
		if has(set, v) {
			near |= t[v]
		}
	}
	return near &^ set
}

// part returns the nodes to which a way within a set leads from node v of it.
func (t town) part(v, set int) int {
	found := 1 << v
	for {
		more := t.around(found) & set
		if more == 0 {
			return found
		}
		found |= more
	}
}

// parts returns the greatest connected sets within a set.
func (t town) parts(set int) []int {
	var list []int
	for set != 0 {
		part := t.part(bits.TrailingZeros(uint(set)), set)
		list = append(list, part)
		set &^= part
	}
	return list
}

// isConnected reports whether a number is a connected set.
func (t town) isConnected(set int) bool {
	return t.isSet(set) && set != 0 && t.part(bits.TrailingZeros(uint(set)), set) == set
}

// touch reports whether two sets have a node in common or neighbours in each other.
func (t town) touch(a, b int) bool { return (a|t.around(a))&b != 0 }

// leastSet returns, of the sets with the fewest nodes that fit, the least one. The set
// of all nodes must fit.
func (t town) leastSet(fits func(set int) bool) int {
	for size := range len(t) {
		for set := range t.all() {
			if count(set) == size && fits(set) {
				return set
			}
		}
	}
	return t.all()
}

// divides reports whether no connected set without the nodes of a set has more than
// half of all nodes.
func (t town) divides(set int) bool {
	for _, part := range t.parts(t.all() &^ set) {
		if 2*count(part) > len(t) {
			return false
		}
	}
	return true
}
