package chase

import (
	"math/bits"

	"lampblack/api"
)

// town is a valid graph, kept as the reach of each node.
type town struct {
	size  int
	reach []int
}

// newTown returns the town of a graph, or false if the graph is not valid.
func newTown(g api.Graph) (town, bool) {
	n := len(g)
	if n < 1 || n > api.MaxChase {
		return town{}, false
	}
	t := town{size: n, reach: make([]int, n)}
	for v, near := range g {
		if !t.isSet(near) || has(near, v) {
			return town{}, false
		}
		t.reach[v] = near | 1<<v
	}
	if !t.mutual() || !t.connected() {
		return town{}, false
	}
	return t, true
}

// has reports whether node v is in a set.
func has(set, v int) bool { return set>>v&1 == 1 }

// all returns the set of all nodes.
func (t town) all() int { return 1<<t.size - 1 }

// isSet reports whether a number is a set of nodes.
func (t town) isSet(set int) bool { return set >= 0 && set <= t.all() }

// isNode reports whether a number is a node.
func (t town) isNode(v int) bool { return v >= 0 && v < t.size }

// mutual reports whether every neighbour of a node has that node as one.
func (t town) mutual() bool {
	for v := range t.size {
		for u := range t.size {
			if has(t.reach[v], u) != has(t.reach[u], v) {
				return false
			}
		}
	}
	return true
}

// connected reports whether node 0 has a way to each node.
func (t town) connected() bool {
	found := 1
	for range t.size {
		for v := range t.size {
			if has(found, v) {
				found |= t.reach[v]
			}
		}
	}
	return found == t.all()
}

// covers reports whether u covers v in a set that has both.
func (t town) covers(u, v, set int) bool {
	return u != v && t.reach[v]&set&^t.reach[u] == 0
}

// corners returns all pairs [v, u] such that u covers v in a set, rising.
func (t town) corners(set int) [][2]int {
	var pairs [][2]int
	for v := range t.size {
		for u := range t.size {
			if has(set, v) && has(set, u) && t.covers(u, v, set) {
				pairs = append(pairs, [2]int{v, u})
			}
		}
	}
	return pairs
}

// isCorner reports whether v is a corner of a set.
func (t town) isCorner(v, set int) bool {
	if !has(set, v) {
		return false
	}
	for u := range t.size {
		if has(set, u) && t.covers(u, v, set) {
			return true
		}
	}
	return false
}

// leastCorner returns the corner of a set with the least index, or false if there is none.
func (t town) leastCorner(set int) (int, bool) {
	for v := range t.size {
		if t.isCorner(v, set) {
			return v, true
		}
	}
	return 0, false
}

// strip takes the least corner away as long as there is one. It returns the nodes
// that it took, in order, and the set that is left.
func (t town) strip() ([]int, int) {
	var taken []int
	set := t.all()
	for {
		v, ok := t.leastCorner(set)
		if !ok {
			return taken, set
		}
		taken = append(taken, v)
		set &^= 1 << v
	}
}

// apart returns the first order that takes the town apart, or false if there is none.
// A corner taken away never changes whether the rest can be taken apart, so the least
// corner at each step leads to the first order, and there is none if that gets stuck.
func (t town) apart() ([]int, bool) {
	order, left := t.strip()
	if bits.OnesCount(uint(left)) != 1 {
		return nil, false
	}
	return append(order, bits.TrailingZeros(uint(left))), true
}

// takesApart reports whether an order, which may be any slice, takes the town apart.
func (t town) takesApart(order []int) bool {
	if len(order) != t.size {
		return false
	}
	set := t.all()
	for i, v := range order {
		if !t.isNode(v) || !has(set, v) {
			return false
		}
		if i < t.size-1 && !t.isCorner(v, set) {
			return false
		}
		set &^= 1 << v
	}
	return true
}
