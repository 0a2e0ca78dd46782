package ears

// number returns the first numbering from s to end, two neighbours, of a double town.
//
// In a numbering, the nodes behind any place are connected, since from each of them a way
// leads to the last one. The other way round, a beginning that leaves a connected rest
// can always be gone on with: taken as one node it is no cut node, and neither is any
// other node, so that the town is still double, or has only two nodes. So the first node
// that keeps the rest connected is the right one; it has a neighbour in the rest.
func (t town) number(s, end int) []int {
	list := []int{s}
	before, rest := 1<<s, t.all()&^(1<<s)
	for len(list) < len(t)-1 {
		v := t.nextNumber(before, rest, end)
		list = append(list, v)
		before |= 1 << v
		rest &^= 1 << v
	}
	return append(list, end)
}

// nextNumber returns the first node of the rest, but for the end, that has a neighbour
// before it and keeps what is left of the rest connected; there is one.
func (t town) nextNumber(before, rest, end int) int {
	for v := range nodes(rest &^ (1 << end)) {
		if t[v]&before != 0 && t.isConnected(rest&^(1<<v)) {
			return v
		}
	}
	return end
}

// isNumbering reports whether l, which may be any slice, is a numbering from its first
// node to its last one.
func (t town) isNumbering(l []int) bool {
	last := len(t) - 1
	if len(l) != len(t) || !t.areNeighbours(l[0], l[last]) {
		return false
	}
	before := 0
	for i, v := range l {
		if !t.isNode(v) || has(before, v) {
			return false
		}
		inner := i > 0 && i < last
		if inner && (t[v]&before == 0 || isPart(t[v], before)) {
			return false
		}
		before |= 1 << v
	}
	return true
}
