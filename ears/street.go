package ears

// streets returns strong one-way streets of a firm town, in the order of the edges.
//
// A search goes as deep as it can, and directs each street as it first goes, or looks,
// along it: on to a node that it finds, or back to one that lies on the way to where it
// is. No street on which it goes on is a bridge, so from behind each of them another
// street leads back to before it, and from every node a way to the first one.
func (t town) streets() []Street {
	out := make([]int, len(t)) // for each node those to which a street leads
	seen := 0
	var visit func(v int)
	visit = func(v int) {
		seen |= 1 << v
		for u := range nodes(t[v]) {
			if has(out[u], v) {
				continue
			}
			out[v] |= 1 << u
			if !has(seen, u) {
				visit(u)
			}
		}
	}
	visit(0)
	var list []Street
	for _, edge := range t.edges() {
		a, b := edge[0], edge[1]
		if has(out[b], a) {
			a, b = b, a
		}
		list = append(list, Street{From: a, To: b})
	}
	return list
}

// areStrong reports whether l, which may be any slice, are one-way streets, in the order
// of the edges, and strong: from the first node all can be reached, and it from all.
func (t town) areStrong(l []Street) bool {
	edges := t.edges()
	if len(l) != len(edges) {
		return false
	}
	out, in := make([]int, len(t)), make([]int, len(t))
	for i, s := range l {
		if edges[i] != [2]int{min(s.From, s.To), max(s.From, s.To)} {
			return false
		}
		out[s.From] |= 1 << s.To
		in[s.To] |= 1 << s.From
	}
	return reach(out, 0, t.all()) == t.all() && reach(in, 0, t.all()) == t.all()
}
