package minor

import "slices"

// rest is what reductions leave of a town: the nodes that are left, and the neighbours that
// each of them has among these.
type rest struct {
	near town
	left int
}

// newRest returns a town of which nothing is taken away. It may be changed.
func (t town) newRest() *rest {
	return &rest{near: slices.Clone(t), left: t.all()}
}

// step returns the reduction of a node, which may be any number, or false if there is none.
func (r *rest) step(v int) (Step, bool) {
	if !r.near.isNode(v) || !has(r.left, v) {
		return Step{}, false
	}
	s := Step{Kind: count(r.near[v]), Node: v, A: -1, B: -1}
	if s.Kind > 2 {
		return Step{}, false
	}
	if s.Kind > 0 {
		s.A = first(r.near[v])
	}
	if s.Kind == 2 {
		s.B = first(r.near[v] &^ (1 << s.A))
	}
	return s, true
}

// firstStep returns the reduction of the first node that can be reduced.
func (r *rest) firstStep() (Step, bool) {
	for v := range nodes(r.left) {
		if s, ok := r.step(v); ok {
			return s, true
		}
	}
	return Step{}, false
}

// do does a reduction of the rest.
func (r *rest) do(s Step) {
	if s.Kind == 2 {
		r.near.link(s.A, s.B)
	}
	for u := range nodes(r.near[s.Node]) {
		r.near[u] &^= 1 << s.Node
	}
	r.left &^= 1 << s.Node
}

// reductions returns the reductions that reduce the town, every time of the first node, or
// false if none do. No other choice of nodes would get farther: a reduction does not
// change whether the width is at most 2, and if it is, some node can be reduced.
func (t town) reductions() ([]Step, bool) {
	r := t.newRest()
	steps := make([]Step, 0, len(t))
	for range len(t) {
		s, ok := r.firstStep()
		if !ok {
			return nil, false
		}
		r.do(s)
		steps = append(steps, s)
	}
	return steps, true
}

// areReductions reports whether l are reductions that reduce the town.
func (t town) areReductions(l []Step) bool {
	r := t.newRest()
	for _, given := range l {
		s, ok := r.step(given.Node)
		if !ok || s != given {
			return false
		}
		r.do(s)
	}
	return r.left == 0
}
