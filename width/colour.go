package width

import (
	"slices"

	"lampblack/api"
)

// maxColours is the greatest number of colours that Count takes.
const maxColours = 6

// colouring gives nodes colours, numbered from 1 in the order in which the nodes first
// have them; 0 is none. It stands for all colourings that differ from it by an exchange
// of colours: there are as many ways to go on from each of them.
type colouring [api.MaxWidth]uint8

// used returns the number of colours of a colouring.
func (c colouring) used() int { return int(slices.Max(c[:])) }

// only returns what is left of a colouring for the nodes of a set, numbered anew.
func (c colouring) only(set int) colouring {
	var left colouring
	var names [maxColours + 1]uint8
	next := uint8(1)
	for v, colour := range c {
		if colour == 0 || !has(set, v) {
			continue
		}
		if names[colour] == 0 {
			names[colour] = next
			next++
		}
		left[v] = names[colour]
	}
	return left
}

// allows reports whether node v can have a colour beside the neighbours with colours.
func (t town) allows(c colouring, v int, colour uint8) bool {
	for u := range t {
		if has(t[v], u) && c[u] == colour {
			return false
		}
	}
	return true
}

// colourings returns the colourings of a bag in which neighbours have different colours,
// each with the number 1.
func (t town) colourings(bag, colours int) map[colouring]int {
	found := map[colouring]int{{}: 1}
	for v := range t {
		if has(bag, v) {
			found = t.withNode(found, v, colours)
		}
	}
	return found
}

// withNode returns the colourings with a colour for one more node, which is behind all
// that have one: it has a colour that is used, or the next one.
func (t town) withNode(found map[colouring]int, v, colours int) map[colouring]int {
	longer := make(map[colouring]int, len(found))
	for c := range found {
		for colour := 1; colour <= min(c.used()+1, colours); colour++ {
			if t.allows(c, v, uint8(colour)) {
				next := c
				next[v] = uint8(colour)
				longer[next] = 1
			}
		}
	}
	return longer
}

// choices returns in how many ways count things can be chosen one after the other from
// a number of them.
func choices(from, count int) int {
	ways := 1
	for i := range count {
		ways *= from - i
	}
	return ways
}

// colouringsAlong returns the number of colourings of the town, counted from the leaves
// of a tree decomposition to its root.
func (t town) colouringsAlong(tree Tree, colours int) int {
	// below returns, for each colouring of what a bag has in common with its parent, the
	// number of ways to colour what else is in the bag or below it.
	var below func(i int) map[colouring]int
	below = func(i int) map[colouring]int {
		found := t.colourings(tree.Bags[i], colours)
		for j, p := range tree.Parent {
			if p == i {
				times(found, below(j), tree.Bags[i]&tree.Bags[j])
			}
		}
		common := 0
		if p := tree.Parent[i]; p != -1 {
			common = tree.Bags[i] & tree.Bags[p]
		}
		return summed(found, common, colours)
	}
	ways := below(slices.Index(tree.Parent, -1))
	return ways[colouring{}]
}

// times multiplies the number of each colouring of a bag by that of a child, for what
// they have in common.
func times(found, child map[colouring]int, common int) {
	for c, n := range found {
		found[c] = n * child[c.only(common)]
	}
}

// summed returns the sum of the numbers of the colourings that are the same on what is
// common, in which any colours left over stand for those that are not in it.
func summed(found map[colouring]int, common, colours int) map[colouring]int {
	sums := map[colouring]int{}
	for c, n := range found {
		left := c.only(common)
		sums[left] += n * choices(colours-left.used(), c.used()-left.used())
	}
	return sums
}
