package sweep

import "lampblack/api"

// maxOrder is the greatest order of a blockage that may be asked for.
const maxOrder = 7

// isOrder reports whether a number is an order that may be asked for.
func isOrder(k int) bool { return k >= 0 && k <= maxOrder }

// choice tells whether a set belongs to the blockage that is looked for.
type choice uint8

const (
	open choice = iota
	taken
	left
)

// other returns left for taken, and taken for left.
func (c choice) other() choice { return taken + left - c }

// draft is a blockage that is looked for.
type draft struct {
	town
	order   int
	thin    []int // the sets for which there is a choice
	choices [1 << api.MaxSweep]choice
}

// thinSets returns the sets that have a border of at most k nodes, rising: no other ones
// can be in a blockage of order k.
func (t town) thinSets(k int) []int {
	var list []int
	for set := range t.all() + 1 {
		if count(t.border(set)) <= k {
			list = append(list, set)
		}
	}
	return list
}

// isPair reports whether each blockage of order k has just one of two sets. The border
// of either one is then a part of the other one, so that both are thin.
func (t town) isPair(x, y, k int) bool {
	return x|y == t.all() && count(x&y) <= k && isPart(t.border(x), y)
}

// blockage returns a blockage of order k, which is at most the path width.
//
// Every rule of a blockage holds just two sets against each other. So, once all that
// follows from a choice is decided without a contradiction, the rules among the sets
// still open are what they were before, and no choice is ever taken back. There is a
// blockage for each order up to the path width, so where one choice ends in a
// contradiction the other one does not.
func (t town) blockage(k int) []int {
	d := draft{town: t, order: k, thin: t.thinSets(k)}
	for _, set := range d.thin {
		if d.choices[set] != open {
			continue
		}
		tried := d
		if tried.decide(set, taken) {
			d = tried
		} else {
			d.decide(set, left)
		}
	}
	return d.chosen()
}

// decide makes a choice and all that follow from it, and reports whether they agree.
// That a set is left if a part of it is left follows from the pairs: the least pair of
// the set is a part of the least pair of that part, which is taken.
func (d *draft) decide(set int, c choice) bool {
	if d.choices[set] != open {
		return d.choices[set] == c
	}
	d.choices[set] = c
	for _, near := range d.thin {
		if c == taken && isPart(near, set) && !d.decide(near, taken) {
			return false
		}
		if d.isPair(set, near, d.order) && !d.decide(near, c.other()) {
			return false
		}
	}
	return true
}

// chosen returns the sets that are taken, rising.
func (d *draft) chosen() []int {
	var list []int
	for _, set := range d.thin {
		if d.choices[set] == taken {
			list = append(list, set)
		}
	}
	return list
}

// isBlockage reports whether l, which may be any slice, is a blockage of order k.
func (t town) isBlockage(l []int, k int) bool {
	var in [1 << api.MaxSweep]bool
	last := -1
	for _, set := range l {
		if set <= last || !t.isSet(set) || count(t.border(set)) > k {
			return false
		}
		in[set] = true
		last = set
	}
	thin := t.thinSets(k)
	for _, x := range thin {
		for _, y := range thin {
			if in[x] && !in[y] && isPart(y, x) || in[x] == in[y] && t.isPair(x, y, k) {
				return false
			}
		}
	}
	return true
}
