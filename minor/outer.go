package minor

// crosses reports whether an edge at the last node of a slice crosses one between nodes
// before it.
func (t town) crosses(l []int) bool {
	last := len(l) - 1
	before := 0
	for j := range last {
		behind := 0
		for _, v := range l[j+1 : last] {
			behind |= 1 << v
		}
		if has(t[l[last]], l[j]) && t.around(before)&behind != 0 {
			return true
		}
		before |= 1 << l[j]
	}
	return false
}

// isOuterOrder reports whether a slice is an outer order.
func (t town) isOuterOrder(l []int) bool {
	if !t.isOrder(l) {
		return false
	}
	for end := range l {
		if t.crosses(l[:end+1]) {
			return false
		}
	}
	return true
}

// outerOrder returns the first outer order, or false if there is none. It begins with the
// first node: an order that is turned around in a circle has the same crossings.
func (t town) outerOrder() ([]int, bool) {
	order := []int{0}
	var extend func(left int) bool
	extend = func(left int) bool {
		if left == 0 {
			return true
		}
		end := len(order)
		for v := range nodes(left) {
			order = append(order, v)
			if !t.crosses(order) && extend(left&^(1<<v)) {
				return true
			}
			order = order[:end]
		}
		return false
	}
	if !extend(t.all() &^ 1) {
		return nil, false
	}
	return order, true
}

// apex returns the least node without which there is an outer order, or false if there is
// none. Of a single node nothing is left, which needs no order.
func (t town) apex() (int, bool) {
	if len(t) == 1 {
		return 0, true
	}
	for v := range t {
		if _, ok := t.without(v).outerOrder(); ok {
			return v, true
		}
	}
	return 0, false
}
