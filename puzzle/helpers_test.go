package puzzle_test

import (
	"fmt"
	"slices"
	"testing"

	"lampblack/puzzle"
)

type rel = puzzle.Rel
type cons = puzzle.Cons
type line = puzzle.Line
type problem = puzzle.Puzzle

func newRel(n int, rows ...int) rel { return rel{N: n, Rows: rows} }

func newCons(r int, vars ...int) cons { return cons{Rel: r, Vars: vars} }

// allRels returns all Rels of n places.
func allRels(n int) []rel {
	var list []rel
	for set := 1; set < 1<<(1<<n); set++ {
		r := rel{N: n}
		for row := range 1 << n {
			if set>>row&1 == 1 {
				r.Rows = append(r.Rows, row)
			}
		}
		list = append(list, r)
	}
	return list
}

// everyRel returns all Rels there are.
func everyRel() []rel { return slices.Concat(allRels(1), allRels(2), allRels(3)) }

// takes is how many rows an operation takes.
var takes = []int{0, 0, 2, 2, 3, 3}

// result goes by the definition: place by place, by the number of rows that have 1.
func result(op, n int, rows []int) int {
	row := 0
	for i := range n {
		ones := 0
		for _, r := range rows {
			ones += r >> i & 1
		}
		if []bool{false, true, ones == 2, ones > 0, ones > 1, ones%2 == 1}[op] {
			row |= 1 << i
		}
	}
	return row
}

// slicesOf returns all slices of n elements of a list, in its order.
func slicesOf[T any](list []T, n int) [][]T {
	all := [][]T{{}}
	for range n {
		var longer [][]T
		for _, l := range all {
			for _, v := range list {
				longer = append(longer, append(slices.Clone(l), v))
			}
		}
		all = longer
	}
	return all
}

// numbers returns the numbers from low to high.
func numbers(low, high int) []int {
	var list []int
	for v := low; v <= high; v++ {
		list = append(list, v)
	}
	return list
}

// breaks returns the first rows that show that an operation does not keep a Rel, or false.
func breaks(r rel, op int) ([]int, bool) {
	for _, rows := range slicesOf(r.Rows, takes[op]) {
		if !slices.Contains(r.Rows, result(op, r.N, rows)) {
			return rows, true
		}
	}
	return nil, false
}

// keptBy returns the Rels that an operation keeps.
func keptBy(op int) []rel {
	return slices.DeleteFunc(everyRel(), func(r rel) bool {
		_, broken := breaks(r, op)
		return broken
	})
}

// fits reports whether a row gives equal values to equal variables.
func fits(row int, vars []int) bool {
	for i, v := range vars {
		for j, u := range vars {
			if v == u && row>>i&1 != row>>j&1 {
				return false
			}
		}
	}
	return true
}

// holds reports whether the values of a number keep a Cons, by the definition.
func holds(p problem, c cons, s int) bool {
	row := 0
	for place, v := range c.Vars {
		row += s >> v & 1 << place
	}
	return slices.Contains(p.Rels[c.Rel].Rows, row)
}

// solves reports whether a number is a solution.
func solves(p problem, s int) bool {
	for _, c := range p.Cons {
		if !holds(p, c, s) {
			return false
		}
	}
	return s >= 0 && s < 1<<p.Vars
}

// solutions returns all solutions, rising.
func solutions(p problem) []int {
	var list []int
	for s := range 1 << p.Vars {
		if solves(p, s) {
			list = append(list, s)
		}
	}
	return list
}

// dice are numbers that look like chance and are always the same.
type dice uint64

func (d *dice) below(n int) int {
	*d = *d*6364136223846793005 + 1442695040888963407
	return int(uint64(*d) >> 33 % uint64(n))
}

// some returns so many of a list.
func some[T any](list []T, count int, d *dice) []T {
	var chosen []T
	for range count {
		chosen = append(chosen, list[d.below(len(list))])
	}
	return chosen
}

// shuffled returns the numbers below n in some order.
func shuffled(n int, d *dice) []int {
	var l []int
	for v := range n {
		l = slices.Insert(l, d.below(v+1), v)
	}
	return l
}

// consOf returns all Cons of n variables that name the Rels of a list.
func consOf(rels []rel, n int) []cons {
	var list []cons
	for i, r := range rels {
		for _, vars := range slicesOf(numbers(0, n-1), r.N) {
			list = append(list, newCons(i, vars...))
		}
	}
	return list
}

// with returns the Puzzle of n variables that has some Cons, and the Rels that they name.
func with(n int, rels []rel, list ...cons) problem {
	p := problem{Vars: n}
	for _, c := range list {
		p.Cons = append(p.Cons, newCons(len(p.Rels), c.Vars...))
		p.Rels = append(p.Rels, rels[c.Rel])
	}
	return p
}

// smallPuzzles returns all Puzzles of one or two variables with at most two Cons of one or
// two places, and all of at most three variables with a Cons of three places.
func smallPuzzles() []problem {
	var list []problem
	short, long := append(allRels(1), allRels(2)...), allRels(3)
	for n := 1; n <= 2; n++ {
		list = append(list, problem{Vars: n})
		all := consOf(short, n)
		for _, a := range all {
			list = append(list, with(n, short, a))
			for _, b := range all {
				list = append(list, with(n, short, a, b))
			}
		}
	}
	for n := 1; n <= 3; n++ {
		for _, c := range consOf(long, n) {
			list = append(list, with(n, long, c))
		}
	}
	return list
}

// puzzleOf returns a Puzzle of at most n variables that has some Rels of a list.
func puzzleOf(rels []rel, n int, d *dice) problem {
	p := problem{Vars: 1 + d.below(n), Rels: some(rels, 1+d.below(5), d)}
	most := 1 + d.below(12)
	for range d.below(most) + 1 {
		i := d.below(len(p.Rels))
		var vars []int
		for range p.Rels[i].N {
			vars = append(vars, d.below(p.Vars))
		}
		p.Cons = append(p.Cons, newCons(i, vars...))
	}
	return p
}

// wideRels returns the Rels that have at least half of the rows.
func wideRels() []rel {
	return slices.DeleteFunc(everyRel(), func(r rel) bool { return len(r.Rows) < 1<<r.N/2 })
}

// somePuzzles returns count Puzzles of at most n variables, of each kind as many: of any
// Rels, of Rels with many rows, and of Rels that one operation keeps.
func somePuzzles(n, count int) []problem {
	d := dice(n)
	kinds := [][]rel{everyRel(), wideRels()}
	for op := range takes {
		kinds = append(kinds, keptBy(op))
	}
	var list []problem
	for range count / len(kinds) {
		for _, rels := range kinds {
			list = append(list, puzzleOf(rels, n, &d))
		}
	}
	return list
}

func manyPuzzles() []problem { return append(smallPuzzles(), somePuzzles(8, 4000)...) }

// circle returns the Puzzle of n variables in a circle, each of which is different from the
// next.
func circle(n int) problem {
	p := problem{Vars: n, Rels: []rel{newRel(2, 1, 2)}}
	for v := range n {
		p.Cons = append(p.Cons, newCons(0, v, (v+1)%n))
	}
	return p
}

// badRels returns what is no valid Rel.
func badRels() map[string]rel {
	return map[string]rel{
		"nothing":         {},
		"no places":       newRel(0, 0),
		"four places":     newRel(4, 1, 2),
		"minus one place": newRel(-1, 0),
		"64 places":       newRel(64, 0),
		"most places":     newRel(1<<63-1, 0),
		"least places":    newRel(-1<<63, 0),
		"no rows":         newRel(2),
		"no row of three": newRel(3),
		"equal rows":      newRel(2, 1, 1),
		"falling rows":    newRel(2, 2, 1),
		"falling at last": newRel(3, 1, 4, 3),
		"negative row":    newRel(2, -1, 1),
		"least row":       newRel(1, -1<<63),
		"row beyond":      newRel(2, 1, 4),
		"beyond one":      newRel(1, 0, 1, 2),
		"beyond three":    newRel(3, 8),
		"greatest row":    newRel(3, 0, 1<<63-1),
		"very many rows":  newRel(3, make([]int, 1000000)...),
		"rising for long": newRel(3, numbers(0, 100000)...),
	}
}

// badPuzzles returns what is no valid Puzzle.
func badPuzzles() map[string]problem {
	two, three := newRel(2, 1, 2), newRel(3, 1, 2, 4)
	rels := []rel{two, three}
	bad := map[string]problem{
		"nothing":          {},
		"no variables":     {Rels: rels},
		"nine variables":   {Vars: 9},
		"very many":        {Vars: 1 << 40},
		"64 variables":     {Vars: 64},
		"minus one":        {Vars: -1},
		"least":            {Vars: -1 << 63},
		"greatest":         {Vars: 1<<63 - 1},
		"six Rels":         {Vars: 2, Rels: []rel{two, two, two, two, two, two}},
		"13 Cons":          {Vars: 2, Rels: rels, Cons: slices.Repeat([]cons{newCons(0, 0, 1)}, 13)},
		"very many Cons":   {Vars: 2, Rels: rels, Cons: make([]cons, 1000000)},
		"very many Rels":   {Vars: 2, Rels: make([]rel, 1000000)},
		"no such Rel":      {Vars: 3, Rels: rels, Cons: []cons{newCons(2, 0, 1)}},
		"no Rels":          {Vars: 3, Cons: []cons{newCons(0, 0)}},
		"Rel minus one":    {Vars: 3, Rels: rels, Cons: []cons{newCons(-1, 0, 1)}},
		"least Rel":        {Vars: 3, Rels: rels, Cons: []cons{newCons(-1<<63, 0, 1)}},
		"greatest Rel":     {Vars: 3, Rels: rels, Cons: []cons{newCons(1<<63-1, 0, 1)}},
		"too few":          {Vars: 3, Rels: rels, Cons: []cons{newCons(1, 0, 1)}},
		"too many":         {Vars: 3, Rels: rels, Cons: []cons{newCons(0, 0, 1, 2)}},
		"none at all":      {Vars: 3, Rels: rels, Cons: []cons{newCons(0)}},
		"very long":        {Vars: 3, Rels: rels, Cons: []cons{newCons(0, make([]int, 1000000)...)}},
		"no such variable": {Vars: 3, Rels: rels, Cons: []cons{newCons(0, 0, 3)}},
		"not one of all":   {Vars: 1, Rels: rels, Cons: []cons{newCons(0, 0, 1)}},
		"negative":         {Vars: 3, Rels: rels, Cons: []cons{newCons(0, -1, 0)}},
		"least variable":   {Vars: 3, Rels: rels, Cons: []cons{newCons(0, 0, -1<<63)}},
		"great variable":   {Vars: 8, Rels: rels, Cons: []cons{newCons(0, 0, 1<<63-1)}},
		"bad at last":      {Vars: 3, Rels: rels, Cons: []cons{newCons(0, 0, 1), newCons(1, 0, 1, 2), newCons(0, 2, 3)}},
	}
	for name, r := range badRels() {
		bad["Rel: "+name] = problem{Vars: 2, Rels: []rel{two, r}, Cons: []cons{newCons(0, 0, 1)}}
		bad["named Rel: "+name] = problem{Vars: 3, Rels: []rel{r}, Cons: []cons{newCons(0, 0, 1)}}
	}
	return bad
}

func same[T comparable](t *testing.T, what string, got, want T) {
	t.Helper()
	if got != want {
		t.Errorf("%s: got %v, want %v", what, got, want)
	}
}

func text(values ...any) string { return fmt.Sprint(values...) }

// sameText compares values by their text, for which nil and empty are the same.
func sameText(t *testing.T, what string, got, want any) {
	t.Helper()
	if g, w := text(got), text(want); g != w {
		t.Errorf("%s: got %s, want %s", what, g, w)
	}
}
