package ears

// entry returns the place at which ways come to a node.
func entry(v int) int { return 2 * v }

// exit returns the place at which ways leave a node.
func exit(v int) int { return 2*v + 1 }

// passages returns the arcs of ways: along each edge in each direction, and through each
// node, leads just one, so that no two ways can use it.
func (t town) passages() arcs {
	list := arcs{}
	for v, near := range t {
		list[arc{entry(v), exit(v)}] = true
		for u := range nodes(near) {
			list[arc{exit(v), entry(u)}] = true
		}
	}
	return list
}

// use turns the arcs of a way around: a later way that goes back along one of them takes
// it from the ways so far.
func (l arcs) use(way []int) {
	for i, v := range way[1:] {
		delete(l, arc{way[i], v})
		l[arc{v, way[i]}] = true
	}
}

// ways returns as many ways as possible from s to end without a node in common but
// these. They leave s, and come to end, without going through them.
func (t town) ways(s, end int) [][]int {
	left := t.passages()
	for {
		way := left.way(exit(s), 1<<entry(end), 0)
		if way == nil {
			return t.waysUsed(left, s, end)
		}
		left.use(way)
	}
}

// waysUsed returns the ways whose arcs are turned around.
func (t town) waysUsed(left arcs, s, end int) [][]int {
	var list [][]int
	for v := range nodes(t[s]) {
		if left[arc{entry(v), exit(s)}] {
			way := []int{s, v}
			for v != end {
				v = t.nextUsed(left, v)
				way = append(way, v)
			}
			list = append(list, way)
		}
	}
	return list
}

// nextUsed returns the node that comes after a node, not the last one, on its way.
func (t town) nextUsed(left arcs, v int) int {
	for u := range nodes(t[v]) {
		if left[arc{entry(u), exit(v)}] {
			return u
		}
	}
	return v
}

// cut returns, of the sets with the fewest nodes without which s and end are not
// connected, the least one; s and end are no neighbours, so there is one.
func (t town) cut(s, end int) int {
	least := t.all() &^ (1<<s | 1<<end)
	for set := range t.all() {
		free := !has(set, s) && !has(set, end)
		if free && count(set) < count(least) && !has(reach(t, s, t.all()&^set), end) {
			least = set
		}
	}
	return least
}
