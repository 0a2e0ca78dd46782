package calls

import (
	"iter"
	"slices"
)

// spot is where news is at a time.
type spot struct{ person, time int }

// after returns the spot to which a call takes news: the same spot, if the call is too
// early or one of others.
func (at spot) after(c Call) spot {
	switch {
	case c.Time <= at.time:
		return at
	case c.A == at.person:
		return spot{c.B, c.Time}
	case c.B == at.person:
		return spot{c.A, c.Time}
	}
	return at
}

// ways goes through all ways from s to t, in order. The memory of a way is used again for
// the next one.
func (d diary) ways(s, t int) iter.Seq[[]int] {
	return func(yield func(way []int) bool) {
		d.goOn(spot{s, 0}, t, 0, nil, yield)
	}
}

// goOn yields all ways to t that begin with a way to a spot, in order. Behind are the
// people from whom this way has gone on. It returns false when no more ways are wanted.
func (d diary) goOn(at spot, t, behind int, way []int, yield func(way []int) bool) bool {
	if at.person == t {
		return yield(way)
	}
	for i, c := range d.all() {
		next := at.after(c)
		if next == at || has(behind, next.person) {
			continue
		}
		if !d.goOn(next, t, behind|1<<at.person, append(way, i), yield) {
			return false
		}
	}
	return true
}

// isWay reports whether a slice, which may be any slice, is a way from s to t.
func (d diary) isWay(s, t int, way []int) bool {
	at, behind := spot{s, 0}, 0
	for _, i := range way {
		if i < 0 || i >= len(d.Calls) {
			return false
		}
		next := at.after(d.Calls[i])
		if next == at || has(behind, next.person) {
			return false
		}
		behind |= 1 << at.person
		at = next
	}
	return at.person == t
}

// best returns, of the ways from s to t of which the measure is the least, the first one,
// or nil if there is no way.
func (d diary) best(s, t int, measure func(way []int) int) []int {
	var best []int
	for way := range d.ways(s, t) {
		if best == nil || measure(way) < measure(best) {
			best = slices.Clone(way)
		}
	}
	return best
}

// leaving returns the time at which a way leaves.
func (d diary) leaving(way []int) int { return d.Calls[way[0]].Time }

// arrival returns the time at which a way arrives.
func (d diary) arrival(way []int) int { return d.Calls[way[len(way)-1]].Time }

// span returns the time that a way takes.
func (d diary) span(way []int) int { return d.arrival(way) - d.leaving(way) }
