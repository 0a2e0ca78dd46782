package puzzle

import (
	"slices"

	"lampblack/api"
)

const (
	allPairs   = 15
	equalPairs = 9 // those of a variable with itself
)

// pairs has, for any two variables, a set of pairs of values: bit a + 2 b for the value a
// of the first and b of the second. Variables that a Puzzle does not have, have none.
type pairs [api.MaxVars][api.MaxVars]int

// pairsOf returns the pairs of two variables of a rule that its rows have.
func (u rule) pairsOf(i, j int) int {
	set := 0
	for _, ones := range u.ones {
		set |= 1 << (bit(ones, i) + 2*bit(ones, j))
	}
	return set
}

// allowed returns the pairs of two variables that every Cons that has both allows.
func (t task) allowed(i, j int) int {
	set := allPairs
	if i == j {
		set = equalPairs
	}
	for _, u := range t.rules {
		if bit(u.vars, i) == 1 && bit(u.vars, j) == 1 {
			set &= u.pairsOf(i, j)
		}
	}
	return set
}

// goes reports whether each of n variables has a value that makes, both with the value a of
// i and with the value b of j, a pair that is left.
func (p pairs) goes(i, a, j, b, n int) bool {
	for k := range n {
		// Moved down by the first value, bits 0 and 2 are the pairs with the values 0 and 1.
		if p[i][k]>>a&(p[j][k]>>b)&5 == 0 {
			return false
		}
	}
	return true
}

// without returns the pairs without those that do not go with some of n variables.
func (p pairs) without(n int) pairs {
	left := p
	for i := range n {
		for j := range n {
			for pair := range 4 {
				if !p.goes(i, pair&1, j, pair>>1, n) {
					left[i][j] &^= 1 << pair
				}
			}
		}
	}
	return left
}

// pairs returns the pairs that are left when no more can be taken away.
func (t task) pairs() pairs {
	var p pairs
	for i := range t.Vars {
		for j := range t.Vars {
			p[i][j] = t.allowed(i, j)
		}
	}
	for {
		before := p
		p = p.without(t.Vars)
		if p == before {
			return p
		}
	}
}

// list returns the pairs of any two of n variables, or false if some two have none.
func (p pairs) list(n int) ([][]int, bool) {
	list := make([][]int, n)
	for i := range list {
		if slices.Contains(p[i][:n], 0) {
			return nil, false
		}
		list[i] = slices.Clone(p[i][:n])
	}
	return list, true
}
