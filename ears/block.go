package ears

import "slices"

// isCut reports whether v is a cut node. Where two nodes are connected only through v,
// so are two neighbours of v.
func (t town) isCut(v int) bool {
	near := t[v]
	return near != 0 && !isPart(near, reach(t, first(near), t.all()&^(1<<v)))
}

// cuts returns the set of all cut nodes.
func (t town) cuts() int {
	set := 0
	for v := range t {
		if t.isCut(v) {
			set |= 1 << v
		}
	}
	return set
}

// blockOf returns the block that has both ends of an edge. In it are the nodes that no
// other single node keeps from the edge: from each of them two ways, with nothing else in
// common, lead to the two ends, and these make a cycle with the edge.
func (t town) blockOf(edge [2]int) int {
	block := t.all()
	for v := range t {
		end := edge[0]
		if end == v {
			end = edge[1]
		}
		block &= reach(t, end, t.all()&^(1<<v)) | 1<<v
	}
	return block
}

// blocks returns all blocks, rising.
func (t town) blocks() []int {
	var list []int
	for v, near := range t {
		if near == 0 {
			list = append(list, 1<<v)
		}
	}
	for _, edge := range t.edges() {
		list = append(list, t.blockOf(edge))
	}
	slices.Sort(list)
	return slices.Compact(list)
}

// bridges returns all bridges, rising: edges that are a block of their own, since the
// nodes of a cycle are in one block.
func (t town) bridges() [][2]int {
	var list [][2]int
	for _, edge := range t.edges() {
		if t.blockOf(edge) == 1<<edge[0]|1<<edge[1] {
			list = append(list, edge)
		}
	}
	return list
}

// isDouble reports whether the town is double.
func (t town) isDouble() bool {
	return len(t) >= 3 && t.isConnected(t.all()) && t.cuts() == 0
}

// isFirm reports whether the town is firm.
func (t town) isFirm() bool {
	return t.isConnected(t.all()) && len(t.bridges()) == 0
}

// pairs returns all pairs that part the town, rising.
func (t town) pairs() [][2]int {
	if !t.isConnected(t.all()) {
		return nil
	}
	var list [][2]int
	for b := range t {
		for a := range b {
			if !t.isConnected(t.all() &^ (1<<a | 1<<b)) {
				list = append(list, [2]int{a, b})
			}
		}
	}
	slices.SortFunc(list, func(p, q [2]int) int { return slices.Compare(p[:], q[:]) })
	return list
}

// edgesWithin returns the number of edges with both ends in a set.
func (t town) edgesWithin(set int) int {
	ends := 0
	for v := range nodes(set) {
		ends += count(t[v] & set)
	}
	return ends / 2
}

// isCactus reports whether every edge is in at most one cycle. A cycle lies within one
// block; a block with more edges than nodes is a cycle with an ear at least, and then
// each edge of one of the ways between the ends of the ear is in two cycles.
func (t town) isCactus() bool {
	for _, block := range t.blocks() {
		if t.edgesWithin(block) > count(block) {
			return false
		}
	}
	return true
}
