package sweep

import "slices"

// maxActs is the greatest number of acts of a plan.
const maxActs = 100

// watch is a town while a plan is played in it.
type watch struct {
	town
	smoky   []int // for each node the neighbours to which its streets are smoky
	guarded int
	visited int  // the nodes that had a guard at some time
	most    int  // the greatest number of guards at the same time
	back    bool // whether a clear street has become smoky
}

// newWatch returns a town full of smoke, without guards.
func newWatch(t town) *watch { return &watch{town: t, smoky: slices.Clone(t)} }

// clears plays a plan, which may be any slice, and reports whether it is right.
func (w *watch) clears(plan []Act) bool {
	if len(plan) > maxActs {
		return false
	}
	for _, a := range plan {
		if !w.do(a) {
			return false
		}
		w.spread()
	}
	for _, near := range w.smoky {
		if near != 0 {
			return false
		}
	}
	return w.visited == w.all()
}

// do does an act, and reports whether it can be done.
func (w *watch) do(a Act) bool {
	if !w.isNode(a.Node) || has(w.guarded, a.Node) == a.Place {
		return false
	}
	w.guarded ^= 1 << a.Node
	if a.Place {
		w.visited |= w.guarded
		w.most = max(w.most, count(w.guarded))
		w.clearAt(a.Node)
	}
	return true
}

// clearAt clears the streets from a node with a guard to the others that have one.
func (w *watch) clearAt(v int) {
	w.smoky[v] &^= w.guarded
	for u := range nodes(w.guarded) {
		w.smoky[u] &^= 1 << v
	}
}

// spread lets smoke spread over the nodes without guards for as long as it can.
func (w *watch) spread() {
	for more := true; more; {
		more = false
		for v := range nodes(w.all() &^ w.guarded) {
			if w.smoky[v] != 0 && w.smoky[v] != w.town[v] {
				w.fill(v)
				w.back, more = true, true
			}
		}
	}
}

// fill makes all streets of a node smoky.
func (w *watch) fill(v int) {
	w.smoky[v] = w.town[v]
	for u := range nodes(w.town[v]) {
		w.smoky[u] |= 1 << v
	}
}

// follow returns the plan that guards one bag after the other, and at last no node.
func follow(bags []int) []Act {
	var plan []Act
	guarded := 0
	for _, bag := range append(slices.Clone(bags), 0) {
		for v := range nodes(guarded &^ bag) {
			plan = append(plan, Act{Place: false, Node: v})
		}
		for v := range nodes(bag &^ guarded) {
			plan = append(plan, Act{Place: true, Node: v})
		}
		guarded = bag
	}
	return plan
}
