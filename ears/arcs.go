package ears

import (
	"slices"

	"lampblack/api"
)

// maxPlaces is the greatest number of places between which arcs lead: a node has two of
// them where ways are counted.
const maxPlaces = 2 * api.MaxEars

// arc leads from one place to another.
type arc struct{ from, to int }

// arcs are those that can still be gone.
type arcs map[arc]bool

// arcs returns each edge of the town in both directions.
func (t town) arcs() arcs {
	list := arcs{}
	for v, near := range t {
		for u := range nodes(near) {
			list[arc{v, u}] = true
		}
	}
	return list
}

// remove takes an edge away in both directions.
func (l arcs) remove(a, b int) {
	delete(l, arc{a, b})
	delete(l, arc{b, a})
}

// way returns a shortest way from one place to a place of the set goal that comes
// through no place of the set barred, or nil if there is none.
func (l arcs) way(from, goal, barred int) []int {
	var before [maxPlaces]int
	seen := barred | 1<<from
	queue := []int{from}
	for len(queue) > 0 {
		v := queue[0]
		queue = queue[1:]
		if has(goal, v) {
			return trace(before[:], from, v)
		}
		for u := range maxPlaces {
			if l[arc{v, u}] && !has(seen, u) {
				seen |= 1 << u
				before[u] = v
				queue = append(queue, u)
			}
		}
	}
	return nil
}

// trace returns the way on which v was found: for each place, before has the one from
// which a step led to it.
func trace(before []int, from, v int) []int {
	list := []int{v}
	for v != from {
		v = before[v]
		list = append(list, v)
	}
	slices.Reverse(list)
	return list
}
