package chase

import (
	"slices"

	"lampblack/api"
)

// escaped is the rank of a Place from which the cat can escape for ever.
const escaped = -1

// game is the chase in a town with one or two sweeps.
type game struct {
	town
	choices [][2]int      // where the sweeps can be, rising
	ranks   map[Place]int // without the Places from which the cat can escape
}

// newGame returns the chase with k sweeps, without ranks, or false if an argument is
// not valid.
func newGame(g api.Graph, k int) (*game, bool) {
	t, ok := newTown(g)
	if !ok || k != 1 && k != 2 {
		return nil, false
	}
	choices := choicesOf(t.size, k)
	return &game{town: t, choices: choices, ranks: make(map[Place]int, len(choices)*t.size)}, true
}

// rankedGame returns the chase with k sweeps with the rank of every Place, or false if
// an argument is not valid.
func rankedGame(g api.Graph, k int) (*game, bool) {
	c, ok := newGame(g, k)
	if ok {
		c.rankAll()
	}
	return c, ok
}

// choicesOf returns the pairs of nodes [A, B] that k sweeps can choose, in the order of
// a Place, rising.
func choicesOf(size, k int) [][2]int {
	var pairs [][2]int
	for a := range size {
		last := a
		if k == 2 {
			last = size - 1
		}
		for b := a; b <= last; b++ {
			pairs = append(pairs, [2]int{a, b})
		}
	}
	return pairs
}

// at returns the Place of sweeps and a cat.
func at(sweeps [2]int, cat int) Place { return Place{A: sweeps[0], B: sweeps[1], Cat: cat} }

// caught reports whether the cat is on the node of a sweep.
func caught(p Place) bool { return p.Cat == p.A || p.Cat == p.B }

// isPlace reports whether p, which may be any value, is a Place of the game.
func (c *game) isPlace(p Place) bool {
	return c.isNode(p.Cat) && slices.Contains(c.choices, [2]int{p.A, p.B})
}

// canMove reports whether the sweeps can move from one pair of nodes to another. They
// are alike, so either may take either node.
func (c *game) canMove(from, to [2]int) bool {
	first, second := c.reach[from[0]], c.reach[from[1]]
	return has(first, to[0]) && has(second, to[1]) || has(first, to[1]) && has(second, to[0])
}

// rankAll gives each Place from which the cat is caught its rank: all Places of a rank
// are found before the next rank, so that the first one found is the least.
func (c *game) rankAll() {
	for _, sweeps := range c.choices {
		c.ranks[at(sweeps, sweeps[0])] = 0
		c.ranks[at(sweeps, sweeps[1])] = 0
	}
	for rank := 1; ; rank++ {
		found := c.nextPlaces()
		if len(found) == 0 {
			return
		}
		for _, p := range found {
			c.ranks[p] = rank
		}
	}
}

// nextPlaces returns the Places without a rank that get one from the ranks so far.
func (c *game) nextPlaces() []Place {
	lost := make([]int, len(c.choices))
	for i, to := range c.choices {
		lost[i] = c.lostCats(to)
	}
	var found []Place
	for _, from := range c.choices {
		cats := 0
		for i, to := range c.choices {
			if c.canMove(from, to) {
				cats |= lost[i]
			}
		}
		for cat := range c.size {
			if has(cats, cat) && c.rank(at(from, cat)) == escaped {
				found = append(found, at(from, cat))
			}
		}
	}
	return found
}

// lostCats returns the set of nodes on which a cat is lost, by the ranks so far, when
// the sweeps have just moved: it is caught there, or all that it can reach has a rank.
func (c *game) lostCats(sweeps [2]int) int {
	ranked := 0
	for cat := range c.size {
		if c.rank(at(sweeps, cat)) != escaped {
			ranked |= 1 << cat
		}
	}
	lost := 0
	for cat := range c.size {
		if caught(at(sweeps, cat)) || c.reach[cat]&^ranked == 0 {
			lost |= 1 << cat
		}
	}
	return lost
}

// rank returns the rank of a Place.
func (c *game) rank(p Place) int {
	if rank, ok := c.ranks[p]; ok {
		return rank
	}
	return escaped
}

// worst returns the greatest rank that the cat can choose after a choice of the sweeps,
// or escaped if it can choose a Place from which it escapes.
func (c *game) worst(sweeps [2]int) int {
	greatest := 0
	for cat := range c.size {
		rank := c.rank(at(sweeps, cat))
		if rank == escaped {
			return escaped
		}
		greatest = max(greatest, rank)
	}
	return greatest
}

// best returns the first best choice of the sweeps and the greatest rank that the cat
// can choose after it, which is escaped if the cat escapes after every choice.
func (c *game) best() ([2]int, int) {
	start, least := [2]int{}, escaped
	for _, sweeps := range c.choices {
		rank := c.worst(sweeps)
		if rank != escaped && (least == escaped || rank < least) {
			start, least = sweeps, rank
		}
	}
	return start, least
}

// wins reports whether the cat is caught when the sweeps move from a Place of a rank to
// these nodes, or has only Places of lesser ranks to go to.
func (c *game) wins(p Place, to [2]int) bool {
	if caught(at(to, p.Cat)) {
		return true
	}
	for cat := range c.size {
		if !has(c.reach[p.Cat], cat) {
			continue
		}
		if rank := c.rank(at(to, cat)); rank == escaped || rank >= c.rank(p) {
			return false
		}
	}
	return true
}

// bestMove returns the first pair of nodes to which the sweeps can move from a Place
// such that they win, or false if its rank is 0 or -1. (No move wins if it is -1.)
func (c *game) bestMove(p Place) ([2]int, bool) {
	if caught(p) {
		return [2]int{}, false
	}
	for _, to := range c.choices {
		if c.canMove([2]int{p.A, p.B}, to) && c.wins(p, to) {
			return to, true
		}
	}
	return [2]int{}, false
}

// escapes returns all Places from which the cat can escape, rising.
func (c *game) escapes() []Place {
	var places []Place
	for _, sweeps := range c.choices {
		for cat := range c.size {
			if p := at(sweeps, cat); c.rank(p) == escaped {
				places = append(places, p)
			}
		}
	}
	return places
}

// areSafe reports whether l, which may be any slice, are safe places. It goes by the
// rules of the chase alone, without ranks, so that it checks what the ranks say.
func (c *game) areSafe(l []Place) bool {
	safe := map[Place]bool{}
	for _, p := range l {
		if !c.isPlace(p) || caught(p) {
			return false
		}
		safe[p] = true
	}
	for p := range safe {
		if !c.staysSafe(p, safe) {
			return false
		}
	}
	for _, sweeps := range c.choices {
		if !c.reachesSafe(sweeps, c.all(), safe) {
			return false
		}
	}
	return true
}

// staysSafe reports whether the cat, after each move of the sweeps from p, is not caught
// and can move to a safe place.
func (c *game) staysSafe(p Place, safe map[Place]bool) bool {
	for _, to := range c.choices {
		if !c.canMove([2]int{p.A, p.B}, to) {
			continue
		}
		if caught(at(to, p.Cat)) || !c.reachesSafe(to, c.reach[p.Cat], safe) {
			return false
		}
	}
	return true
}

// reachesSafe reports whether one of the cat's nodes makes a safe place with the sweeps.
func (c *game) reachesSafe(sweeps [2]int, cats int, safe map[Place]bool) bool {
	for cat := range c.size {
		if has(cats, cat) && safe[at(sweeps, cat)] {
			return true
		}
	}
	return false
}
