package puzzle

import (
	"iter"
	"math/bits"
	"slices"

	"lampblack/api"
)

const (
	maxRels = 5
	maxCons = 12
)

// rule is what a Cons says of its variables, each taken once: their set, and for each row
// that gives equal values to equal variables the set of those that are 1.
type rule struct {
	vars int
	ones []int
}

// task is a Puzzle that is valid, with a rule for each Cons.
type task struct {
	Puzzle
	rules []rule
}

// newTask returns the task of a Puzzle, or false if the Puzzle is not valid.
func newTask(p Puzzle) (task, bool) {
	if p.Vars < 1 || p.Vars > api.MaxVars || len(p.Rels) > maxRels || len(p.Cons) > maxCons {
		return task{}, false
	}
	t := task{Puzzle: p}
	for _, r := range p.Rels {
		if !isRel(r) {
			return task{}, false
		}
	}
	for _, c := range p.Cons {
		if c.Rel < 0 || c.Rel >= len(p.Rels) || len(c.Vars) != p.Rels[c.Rel].N || !t.areVars(c.Vars) {
			return task{}, false
		}
		t.rules = append(t.rules, newRule(p.Rels[c.Rel], c.Vars))
	}
	return t, true
}

// newRule returns the rule that the values of some variables are a row of a Rel.
func newRule(r Rel, vars []int) rule {
	var u rule
	for _, v := range vars {
		u.vars |= 1 << v
	}
	for _, row := range r.Rows {
		ones := 0
		for place, v := range vars {
			ones |= bit(row, place) << v
		}
		if rowOf(ones, vars) == row { // else a variable had 0 at one place, and 1 at another
			u.ones = append(u.ones, ones)
		}
	}
	return u
}

// bit is 1 if a set has e, else 0.
func bit(set, e int) int { return set >> e & 1 }

// count returns how many a set has.
func count(set int) int { return bits.OnesCount(uint(set)) }

// rowOf returns the values that some variables have if a set of variables is 1.
func rowOf(ones int, vars []int) int {
	row := 0
	for place, v := range vars {
		row |= bit(ones, v) << place
	}
	return row
}

// areVars reports whether numbers are variables.
func (t task) areVars(list []int) bool {
	for _, v := range list {
		if v < 0 || v >= t.Vars {
			return false
		}
	}
	return true
}

// against returns the set of the Cons that are not kept if a set of variables is 1.
func (t task) against(ones int) int {
	set := 0
	for i, u := range t.rules {
		if !slices.Contains(u.ones, ones&u.vars) {
			set |= 1 << i
		}
	}
	return set
}

// isSolution reports whether a number is a solution.
func (t task) isSolution(s int) bool {
	return s >= 0 && s <= all(t.Vars) && t.against(s) == 0
}

// solutions goes through the solutions, rising.
func (t task) solutions() iter.Seq[int] {
	return func(yield func(s int) bool) {
		for s := range 1 << t.Vars {
			if t.isSolution(s) && !yield(s) {
				return
			}
		}
	}
}

// class returns the set of the operations that keep all Rels that a Cons names.
func (t task) class() int {
	set := 0
	for op, o := range operations() {
		if !slices.ContainsFunc(t.Cons, func(c Cons) bool { return !o.keeps(t.Rels[c.Rel]) }) {
			set |= 1 << op
		}
	}
	return set
}

// project returns the Rel of the values of some variables in all solutions. It is not valid
// if there is no solution.
func (t task) project(vars []int) Rel {
	r := Rel{N: len(vars)}
	for s := range t.solutions() {
		r.Rows = append(r.Rows, rowOf(s, vars))
	}
	slices.Sort(r.Rows)
	r.Rows = slices.Compact(r.Rows)
	return r
}

// blame returns the least of the sets of the fewest Cons that have no solution together, or
// false if there is a solution. Such a set has, whatever is 1, a Cons that is not kept.
func (t task) blame() (int, bool) {
	against := make([]int, 1<<t.Vars)
	for ones := range against {
		against[ones] = t.against(ones)
	}
	if slices.Contains(against, 0) {
		return 0, false
	}
	best := all(len(t.Cons))
	for set := range best {
		kept := func(broken int) bool { return broken&set == 0 }
		if count(set) < count(best) && !slices.ContainsFunc(against, kept) {
			best = set
		}
	}
	return best, true
}
