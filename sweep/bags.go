package sweep

import "lampblack/api"

// maxBags is the greatest number of bags of a path decomposition.
const maxBags = 30

// bagsOf returns the path decomposition of a layout.
func (t town) bagsOf(layout []int) []int {
	bags := make([]int, 0, len(layout))
	before := 0
	for _, v := range layout {
		bags = append(bags, t.border(before)|1<<v)
		before |= 1 << v
	}
	return bags
}

// widthOf returns the width of a path decomposition.
func widthOf(bags []int) int {
	most := 0
	for _, bag := range bags {
		most = max(most, count(bag))
	}
	return most - 1
}

// isDecomposition reports whether a slice, which may be any one, is a path
// decomposition.
func (t town) isDecomposition(bags []int) bool {
	if len(bags) < 1 || len(bags) > maxBags {
		return false
	}
	var together [api.MaxSweep]int // for each node all that is in some bag with it
	seen, gone := 0, 0
	for _, bag := range bags {
		gone |= seen &^ bag
		if !t.isSet(bag) || bag&gone != 0 {
			return false
		}
		seen |= bag
		for v := range nodes(bag) {
			together[v] |= bag
		}
	}
	for v, near := range t {
		if !isPart(near, together[v]) {
			return false
		}
	}
	return seen == t.all()
}
