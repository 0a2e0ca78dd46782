package sweep

// isLayout reports whether a slice, which may be any one, has all nodes, each once.
func (t town) isLayout(layout []int) bool {
	if len(layout) != len(t) {
		return false
	}
	found := 0
	for _, v := range layout {
		if !t.isNode(v) || has(found, v) {
			return false
		}
		found |= 1 << v
	}
	return true
}

// breadth returns the breadth of a layout.
func (t town) breadth(layout []int) int {
	most, set := 0, 0
	for _, v := range layout {
		set |= 1 << v
		most = max(most, count(t.border(set)))
	}
	return most
}

// breadths returns, for each set, the least breadth of a layout that begins with it,
// where the beginnings that are shorter than the set do not count.
func (t town) breadths() []int {
	least := make([]int, t.all()+1)
	for set := t.all() - 1; set >= 0; set-- {
		rest := len(t)
		for v := range nodes(t.all() &^ set) {
			rest = min(rest, least[set|1<<v])
		}
		least[set] = max(rest, count(t.border(set)))
	}
	return least
}

// pathWidth returns the least breadth of a layout.
func (t town) pathWidth() int { return t.breadths()[0] }

// firstLayout returns the first layout of least breadth: at each place it takes the
// first node after which the rest can still keep to that breadth.
func (t town) firstLayout() []int {
	least := t.breadths()
	layout := make([]int, 0, len(t))
	for set := 0; set != t.all(); {
		for v := range nodes(t.all() &^ set) {
			if least[set|1<<v] <= least[0] {
				layout = append(layout, v)
				set |= 1 << v
				break
			}
		}
	}
	return layout
}
