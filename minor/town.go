package minor

import (
	"iter"
	"math/bits"
	"slices"

	"lampblack/api"
)

// town is a graph that is valid.
type town api.Graph

// newTown returns the town of a graph, or false if the graph is not valid.
func newTown(g api.Graph) (town, bool) {
	if len(g) < 1 || len(g) > api.MaxMinor {
		return nil, false
	}
	t := town(g)
	for v, near := range t {
		if !t.isSet(near) || has(near, v) {
			return nil, false
		}
	}
	for v, near := range t {
		for u := range nodes(near) {
			if !has(t[u], v) {
				return nil, false
			}
		}
	}
	return t, true
}

// newPair returns the towns of a graph and of a pattern, or false if one is not valid.
func newPair(g, pattern api.Graph) (t, p town, ok bool) {
	t, isGraph := newTown(g)
	p, isPattern := newTown(pattern)
	return t, p, isGraph && isPattern && len(p) <= maxPattern
}

// has reports whether node v is in a set.
func has(set, v int) bool { return set>>v&1 == 1 }

// count returns the number of nodes of a set.
func count(set int) int { return bits.OnesCount(uint(set)) }

// first returns the first node of a set that is not empty.
func first(set int) int { return bits.TrailingZeros(uint(set)) }

// nodes goes through the nodes of a set, rising.
func nodes(set int) iter.Seq[int] {
	return func(yield func(v int) bool) {
		for left := set; left != 0; left &= left - 1 {
			if !yield(first(left)) {
				return
			}
		}
	}
}

// all returns the set of all nodes.
func (t town) all() int { return 1<<len(t) - 1 }

// isSet reports whether a number is a set of nodes.
func (t town) isSet(set int) bool { return set >= 0 && set <= t.all() }

// isNode reports whether a number is a node.
func (t town) isNode(v int) bool { return v >= 0 && v < len(t) }

// areNeighbours reports whether two numbers are nodes that are neighbours.
func (t town) areNeighbours(a, b int) bool { return t.isNode(a) && t.isNode(b) && has(t[a], b) }

// around returns the nodes that have a neighbour in a set.
func (t town) around(set int) int {
	near := 0
	for v := range nodes(set) {
		near |= t[v]
	}
	return near
}

// isConnected reports whether a number is a connected set.
func (t town) isConnected(set int) bool {
	if !t.isSet(set) || set == 0 {
		return false
	}
	found := 1 << first(set)
	for {
		more := t.around(found) & set &^ found
		if more == 0 {
			return found == set
		}
		found |= more
	}
}

// isOrder reports whether a slice has all nodes, each once.
func (t town) isOrder(l []int) bool {
	if len(l) != len(t) {
		return false
	}
	seen := 0
	for _, v := range l {
		if !t.isNode(v) || has(seen, v) {
			return false
		}
		seen |= 1 << v
	}
	return true
}

// link makes two nodes neighbours.
func (t town) link(a, b int) {
	t[a] |= 1 << b
	t[b] |= 1 << a
}

// without returns the town without a node; the nodes behind it move up.
func (t town) without(v int) town {
	left := make(town, 0, len(t))
	for u, near := range t {
		if u != v {
			left = append(left, near&(1<<v-1)|near>>(v+1)<<v)
		}
	}
	return left
}

// joined returns the town in which a has the neighbours of b, too, and b is not.
func (t town) joined(a, b int) town {
	wider := slices.Clone(t)
	for u := range nodes(t[b] &^ (1 << a)) {
		wider.link(a, u)
	}
	return wider.without(b)
}
