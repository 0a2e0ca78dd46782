// Package chase catches a cat on the roofs: sweeps and a cat move by turns along a
// graph. It ranks positions, finds safe places, and takes graphs apart by corners.
package chase

import "lampblack/api"

// Place is where sweeps and a cat are before a move of the sweeps. With one sweep B is
// A; with two A is at most B.
type Place struct{ A, B, Cat int }

// Corners returns all pairs [v, u] such that u covers v in a set of nodes, rising.
func Corners(g api.Graph, set int) ([][2]int, api.Errno) {
	t, ok := newTown(g)
	if !ok || !t.isSet(set) {
		return nil, api.ErrArg
	}
	return t.corners(set), api.OK
}

// Apart returns the first order that takes a graph apart, or ErrState if there is none.
func Apart(g api.Graph) ([]int, api.Errno) {
	t, ok := newTown(g)
	if !ok {
		return nil, api.ErrArg
	}
	order, ok := t.apart()
	if !ok {
		return nil, api.ErrState
	}
	return order, api.OK
}

// CheckApart reports whether an order takes a graph apart.
func CheckApart(g api.Graph, order []int) (bool, api.Errno) {
	t, ok := newTown(g)
	if !ok {
		return false, api.ErrArg
	}
	return t.takesApart(order), api.OK
}

// Core returns the set that is left if the corner with the least index is taken away as
// long as there is one.
func Core(g api.Graph) (int, api.Errno) {
	t, ok := newTown(g)
	if !ok {
		return 0, api.ErrArg
	}
	_, left := t.strip()
	return left, api.OK
}

// Rank returns the least number of moves with which k sweeps can catch the cat from a
// Place, or -1 if it can escape.
func Rank(g api.Graph, k int, p Place) (int, api.Errno) {
	c, ok := rankedGame(g, k)
	if !ok || !c.isPlace(p) {
		return 0, api.ErrArg
	}
	return c.rank(p), api.OK
}

// Rounds returns the greatest rank that the cat can choose after the best choice of k
// sweeps, or ErrNone if it can escape.
func Rounds(g api.Graph, k int) (int, api.Errno) {
	c, ok := rankedGame(g, k)
	if !ok {
		return 0, api.ErrArg
	}
	_, rank := c.best()
	if rank == escaped {
		return 0, api.ErrNone
	}
	return rank, api.OK
}

// Start returns the first best choice of k sweeps, or ErrNone if the cat can escape.
func Start(g api.Graph, k int) ([2]int, api.Errno) {
	c, ok := rankedGame(g, k)
	if !ok {
		return [2]int{}, api.ErrArg
	}
	start, rank := c.best()
	if rank == escaped {
		return [2]int{}, api.ErrNone
	}
	return start, api.OK
}

// Move returns the first best move of k sweeps from a Place, or ErrNone if its rank is
// 0 or -1.
func Move(g api.Graph, k int, p Place) ([2]int, api.Errno) {
	c, ok := rankedGame(g, k)
	if !ok || !c.isPlace(p) {
		return [2]int{}, api.ErrArg
	}
	to, ok := c.bestMove(p)
	if !ok {
		return [2]int{}, api.ErrNone
	}
	return to, api.OK
}

// Safe returns safe places, or ErrNone if k sweeps catch the cat from some choice. It
// returns all Places from which the cat can escape.
func Safe(g api.Graph, k int) ([]Place, api.Errno) {
	c, ok := rankedGame(g, k)
	if !ok {
		return nil, api.ErrArg
	}
	if _, rank := c.best(); rank != escaped {
		return nil, api.ErrNone
	}
	return c.escapes(), api.OK
}

// CheckSafe reports whether places are safe places against k sweeps.
func CheckSafe(g api.Graph, k int, l []Place) (bool, api.Errno) {
	c, ok := newGame(g, k)
	if !ok {
		return false, api.ErrArg
	}
	return c.areSafe(l), api.OK
}
