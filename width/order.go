package width

// left returns the neighbours that node v has after the elimination of a set of other
// nodes: ways through eliminated nodes have become edges.
func (t town) left(v, gone int) int {
	return t.around(t.part(v, gone|1<<v))
}

// widths returns a function that returns the least width of an order of the nodes that
// are left after the elimination of a set. It works each set out just once.
func (t town) widths() func(gone int) int {
	known := map[int]int{t.all(): 0}
	var least func(gone int) int
	least = func(gone int) int {
		if width, ok := known[gone]; ok {
			return width
		}
		best := len(t)
		for v := range t {
			if !has(gone, v) {
				rest := least(gone | 1<<v)
				best = min(best, max(rest, count(t.left(v, gone))))
			}
		}
		known[gone] = best
		return best
	}
	return least
}

// width returns the least width of an order of all nodes, which is that of the graph.
func (t town) width() int {
	least := t.widths()
	return least(0)
}

// firstOrder returns the first order of least width: at each turn it takes the first
// node after which the rest can still keep to that width.
func (t town) firstOrder() []int {
	least := t.widths()
	width := least(0)
	order := make([]int, 0, len(t))
	for gone := 0; gone != t.all(); {
		for v := range t {
			if !has(gone, v) && count(t.left(v, gone)) <= width && least(gone|1<<v) <= width {
				order = append(order, v)
				gone |= 1 << v
				break
			}
		}
	}
	return order
}

// isOrder reports whether a slice has all nodes, each once.
func (t town) isOrder(order []int) bool {
	if len(order) != len(t) {
		return false
	}
	found := 0
	for _, v := range order {
		if !t.isNode(v) || has(found, v) {
			return false
		}
		found |= 1 << v
	}
	return true
}

// along returns the width of an order.
func (t town) along(order []int) int {
	width, gone := 0, 0
	for _, v := range order {
		width = max(width, count(t.left(v, gone)))
		gone |= 1 << v
	}
	return width
}
