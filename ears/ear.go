package ears

// takeTogether returns ears that take a double town together.
func (t town) takeTogether() []Ear {
	var list []Ear
	left := t.arcs()
	seen := 1 << 0
	add := func(ear Ear) {
		for i, v := range ear[1:] {
			left.remove(ear[i], v)
			seen |= 1 << v
		}
		list = append(list, ear)
	}
	for len(left) > 0 {
		a := t.step(left, seen)
		add(left.earAlong(a, seen))
	}
	return list
}

// step returns the first arc that is left from a node of the set seen. The town is
// connected, so there is one as long as any arc is left.
func (t town) step(left arcs, seen int) arc {
	for v := range nodes(seen) {
		for u := range nodes(t[v]) {
			if left[arc{v, u}] {
				return arc{v, u}
			}
		}
	}
	return arc{}
}

// earAlong returns a shortest ear that begins with an arc. Its end is another node of the
// set seen; if there is no other one it is the first ear, which comes back. No node of
// the town is a cut node, so there is always a way to the end.
func (l arcs) earAlong(a arc, seen int) Ear {
	goal, barred := seen&^(1<<a.from), 1<<a.from
	if goal == 0 {
		goal, barred = barred, goal
		l.remove(a.from, a.to)
	}
	return append(Ear{a.from}, l.way(a.to, goal, barred)...)
}

// isTogether reports whether ears, which may be any slices, take the town together.
func (t town) isTogether(l []Ear) bool {
	left := t.arcs()
	seen := 0
	for i, ear := range l {
		if len(ear) < 2 || !left.take(ear) {
			return false
		}
		a, b := ear[0], ear[len(ear)-1]
		if i == 0 {
			seen = 1 << a
		}
		if (a == b) != (i == 0) || !has(seen, a) || !has(seen, b) {
			return false
		}
		for _, v := range ear[1 : len(ear)-1] {
			if has(seen, v) {
				return false
			}
			seen |= 1 << v
		}
	}
	return len(left) == 0 && seen == t.all()
}

// take removes the edges of an ear, and reports whether each of them was there: then
// all of the ear are nodes, and an ear that comes back has at least three of them.
func (l arcs) take(ear Ear) bool {
	for i, v := range ear[1:] {
		if !l[arc{ear[i], v}] {
			return false
		}
		l.remove(ear[i], v)
	}
	return true
}
