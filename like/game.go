package like

import (
	"slices"

	"lampblack/api"
)

const (
	maxRounds = 3 // rounds that are left
	maxChosen = 3 // rounds before
)

// isNumberOfRounds reports whether so many rounds may be left.
func isNumberOfRounds(k int) bool { return k >= 0 && k <= maxRounds }

// position is the nodes that were chosen in both towns, round by round.
type position struct {
	pair
	a, b []int
}

// newPosition returns the position of nodes that were chosen in two graphs, or false if an
// argument is not valid.
func newPosition(g, h api.Graph, a, b []int) (position, bool) {
	p, ok := newPair(g, h)
	if !ok || len(a) != len(b) || len(a) > maxChosen || !p.g.areNodes(a) || !p.h.areNodes(b) {
		return position{}, false
	}
	return position{p, a, b}, true
}

// with returns the position after one more round.
func (p position) with(u, v int) position {
	return position{p.pair, append(slices.Clip(p.a), u), append(slices.Clip(p.b), v)}
}

// swapped returns the position with the towns exchanged.
func (p position) swapped() position { return position{pair{p.h, p.g}, p.b, p.a} }

// isEven reports whether the second player would win if no round were left.
func (p position) isEven() bool {
	for i := range p.a {
		if !p.agree(p.a[:i], p.b[:i], p.a[i], p.b[i]) {
			return false
		}
	}
	return true
}

// canWin reports whether the second player can win if k rounds are left of an even
// position: if every node of both towns has one in the other town that answers it.
func (p position) canWin(k int) bool {
	if k == 0 {
		return true
	}
	inG, inH := 0, 0 // the nodes that have an answer
	for u := range p.g {
		for v := range p.h {
			if has(inG, u) && has(inH, v) {
				continue
			}
			if p.agree(p.a, p.b, u, v) && p.with(u, v).canWin(k-1) {
				inG |= 1 << u
				inH |= 1 << v
			}
		}
	}
	return inG == p.g.all() && inH == p.h.all()
}

// tell returns a formula about the nodes chosen, of a depth of at most k, that is true in g
// and not in h, or false if the second player can win. The variable of a round is its index.
// From an empty position the formula has at most 733 nodes, and is at most 23 deep.
func (p position) tell(k int) (Form, bool) {
	if k == 0 {
		return Form{}, false
	}
	if f, ok := p.claim(k); ok {
		return f, true
	}
	if f, ok := p.swapped().claim(k); ok {
		return not(f), true
	}
	return Form{}, false
}

// claim returns a formula that says there is a node of g which no node of h answers, or
// false if each is answered.
func (p position) claim(k int) (Form, bool) {
	for u := range p.g {
		if f, ok := p.against(u, k-1); ok {
			return some(len(p.a), f), true
		}
	}
	return Form{}, false
}

// against returns a formula that is true of node u and of no node of h, or false if one of
// them answers u.
func (p position) against(u, k int) (Form, bool) {
	var list []Form
	for v := range p.h {
		f, ok := p.between(u, v, k)
		if !ok {
			return Form{}, false
		}
		if !slices.ContainsFunc(list, f.equals) {
			list = append(list, f)
		}
	}
	all := list[0]
	for _, f := range list[1:] {
		all = and(all, f)
	}
	return all, true
}

// between returns a formula that is true of node u of g and not of node v of h, or false if
// v answers u.
func (p position) between(u, v, k int) (Form, bool) {
	next := len(p.a)
	for i := range p.a {
		inG, inH := p.g.bond(p.a[i], u), p.h.bond(p.b[i], v)
		if inG.same != inH.same {
			return either(same(i, next), inG.same), true
		}
		if inG.near != inH.near {
			return either(near(i, next), inG.near), true
		}
	}
	return p.with(u, v).tell(k)
}
