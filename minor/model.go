package minor

import (
	"lampblack/api"
	"lampblack/width"
)

const (
	maxPattern = 6 // nodes of a pattern
	minWheel   = 3 // nodes around a wheel
	maxWheel   = 5
)

// complete returns the town of n nodes that are all neighbours of each other.
func complete(n int) town {
	t := make(town, n)
	for v := range n {
		t[v] = t.all() &^ (1 << v)
	}
	return t
}

// wheel returns the town of a cycle of n nodes around node n.
func wheel(n int) town {
	t := make(town, n+1)
	for v := range n {
		t.link(v, (v+1)%n)
		t.link(v, n)
	}
	return t
}

// width returns how far the town is from a tree. Any town is a graph that is valid there.
func (t town) width() int {
	w, _ := width.Width(api.Graph(t))
	return w
}

// reaches reports whether a set of nodes has a neighbour in each of some sets whose index
// is in the set near.
func (t town) reaches(set, near int, sets []int) bool {
	around := t.around(set)
	for i, other := range sets {
		if has(near, i) && around&other == 0 {
			return false
		}
	}
	return true
}

// isModel reports whether a slice is a model of a pattern.
func (t town) isModel(pattern town, model []int) bool {
	if len(model) != len(pattern) {
		return false
	}
	used := 0
	for i, set := range model {
		if !t.isConnected(set) || set&used != 0 || !t.reaches(set, pattern[i], model[:i]) {
			return false
		}
		used |= set
	}
	return true
}

// model returns, of the models of a pattern with the fewest nodes, the first one, or false
// if there is none. It allows more nodes only where fewer do not do. Where the pattern is
// farther from a tree than the town, it spares the search: no minor is.
func (t town) model(pattern town) ([]int, bool) {
	if len(pattern) > len(t) || pattern.width() > t.width() {
		return nil, false
	}
	connected := make([]bool, t.all()+1)
	for set := range connected {
		connected[set] = t.isConnected(set)
	}
	for size := len(pattern); size <= len(t); size++ {
		if model := t.modelOf(pattern, size, connected); len(model) > 0 {
			return model, true
		}
	}
	return nil, false
}

// modelOf returns the first model with at most so many nodes, or nil if there is none.
func (t town) modelOf(pattern town, size int, connected []bool) []int {
	var model []int
	// extend finds sets for the other nodes of the pattern, which together have at most so
	// many of the free nodes.
	var extend func(free, left int) bool
	extend = func(free, left int) bool {
		next := len(model)
		if next == len(pattern) {
			return true
		}
		room := left - (len(pattern) - next - 1) // each of the others has a node, too
		for set := range free + 1 {
			if set&^free != 0 || !connected[set] || count(set) > room || !t.reaches(set, pattern[next], model) {
				continue
			}
			model = append(model, set)
			if extend(free&^set, left-count(set)) {
				return true
			}
			model = model[:next]
		}
		return false
	}
	if !extend(t.all(), size) {
		return nil
	}
	return model
}

// greatest returns the greatest number of nodes of a pattern that is a minor, and whose
// nodes are all neighbours of each other.
func (t town) greatest() int {
	for n := min(len(t), maxPattern); n > 1; n-- {
		if _, ok := t.model(complete(n)); ok {
			return n
		}
	}
	return 1
}
