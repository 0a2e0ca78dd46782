package puzzle_test

import (
	"slices"
	"strings"
	"testing"

	"lampblack/api"
	"lampblack/puzzle"
)

// question has an argument for each function.
type question struct {
	p     problem
	r     rel
	op, s int
	vars  []int
	lines []line
}

// copied is a Puzzle that shares no memory with the given one.
func copied(p problem) problem {
	c := p
	c.Rels, c.Cons = slices.Clone(p.Rels), slices.Clone(p.Cons)
	for i := range c.Rels {
		c.Rels[i].Rows = slices.Clone(c.Rels[i].Rows)
	}
	for i := range c.Cons {
		c.Cons[i].Vars = slices.Clone(c.Cons[i].Vars)
	}
	return c
}

func (q question) clone() question {
	c := q
	c.p, c.r.Rows = copied(q.p), slices.Clone(q.r.Rows)
	c.vars, c.lines = slices.Clone(q.vars), slices.Clone(q.lines)
	return c
}

// ofRel returns the results of the functions of a Rel as texts.
func ofRel(q question) []string {
	ok, e1 := puzzle.Keeps(q.r, q.op)
	rows, e2 := puzzle.Broken(q.r, q.op)
	hull, e3 := puzzle.Hull(q.r, q.op)
	return []string{text(ok, " ", e1), text(rows, " ", e2), text(hull, " ", e3)}
}

// ofPuzzle returns the results of the functions of a Puzzle as texts.
func ofPuzzle(q question) []string {
	class, e1 := puzzle.Class(q.p)
	least, e2 := puzzle.Solve(q.p)
	n, e3 := puzzle.Count(q.p)
	solved, e4 := puzzle.Check(q.p, q.s)
	domains, e5 := puzzle.Narrow(q.p)
	sets, e6 := puzzle.Pairs(q.p)
	odd, e7 := puzzle.Odd(q.p)
	proved, e8 := puzzle.CheckOdd(q.p, q.lines)
	r, e9 := puzzle.Project(q.p, q.vars)
	blame, e10 := puzzle.Blame(q.p)
	return []string{
		text(class, " ", e1), text(least, " ", e2), text(n, " ", e3), text(solved, " ", e4), text(domains, " ", e5),
		text(sets, " ", e6), text(odd, " ", e7), text(proved, " ", e8), text(r, " ", e9), text(blame, " ", e10),
	}
}

func answers(q question) []string { return slices.Concat(ofRel(q), ofPuzzle(q)) }

// What is said of arguments that are not valid.
var (
	relRefused    = []string{"false 2", "[] 2", "{0 []} 2"}
	puzzleRefused = []string{"0 2", "0 2", "0 2", "false 2", "[] 2", "[] 2", "[] 2", "false 2", "{0 []} 2", "0 2"}
)

// good is a question of which every argument is valid, and that has solutions.
func good() question {
	return question{
		p: problem{Vars: 3, Rels: []rel{newRel(2, 1, 2), newRel(1, 1)}, Cons: []cons{newCons(0, 0, 1), newCons(1, 2)}},
		r: newRel(3, 1, 2, 4), op: 2, s: 5, vars: []int{1, 2, 1}, lines: []line{{0, 3}, {1, 1}},
	}
}

// unsolved is one that has none.
func unsolved() question {
	q := good()
	q.p.Cons = append(q.p.Cons, newCons(0, 1, 0), newCons(0, 0, 0))
	q.lines = []line{{0, 3}, {2, 3}, {3, 3}}
	q.r = newRel(3, 0, 7)
	return q
}

func TestGood(t *testing.T) {
	want := []string{
		"false 0", "[1 2] 0", "{3 [0 1 2 4]} 0",
		"48 0", "5 0", "2 0", "true 0", "[3 3 2] 0", "[[9 6 12] [6 9 12] [10 10 8]] 0", "[] 4", "false 0", "{3 [2 7]} 0", "0 4",
	}
	sameText(t, "good", answers(good()), want)
	want = []string{
		"true 0", "[] 4", "{3 [0 7]} 0",
		"48 0", "0 4", "0 0", "false 0", "[] 4", "[] 4", "[{3 3}] 0", "true 0", "{0 []} 4", "8 0",
	}
	sameText(t, "unsolved", answers(unsolved()), want)
}

// TestNotValid: ErrArg comes first, whatever else is wrong, and every other result is zero.
func TestNotValid(t *testing.T) {
	for name, p := range badPuzzles() {
		for _, q := range []question{good(), unsolved(), {}, {s: -1, vars: []int{-1, 0, 0, 0}, lines: []line{{-1, -1}}}} {
			q.p = p
			sameText(t, name, ofPuzzle(q), puzzleRefused)
		}
	}
	for name, r := range badRels() {
		for _, op := range []int{2, -1, 6} {
			sameText(t, name, ofRel(question{r: r, op: op}), relRefused)
		}
	}
}

// TestValid: what is at the edge of what is valid is taken.
func TestValid(t *testing.T) {
	full := []rel{newRel(1, 0, 1), newRel(2, 0, 3), newRel(3, 0, 1, 2, 3, 4, 5, 6, 7), newRel(3, 7), newRel(3, 0)}
	table := map[string]problem{
		"one variable":      {Vars: 1},
		"all variables":     {Vars: api.MaxVars},
		"Rels without Cons": {Vars: 1, Rels: full},
		"as many as can be": {Vars: 8, Rels: full, Cons: slices.Repeat([]cons{newCons(4, 7, 7, 0)}, 12)},
		"one three times":   {Vars: 1, Rels: full, Cons: []cons{newCons(2, 0, 0, 0)}},
		"the same Rels":     {Vars: 3, Rels: slices.Repeat(full[:1], 5), Cons: []cons{newCons(4, 2)}},
	}
	for name, p := range table {
		for i, line := range ofPuzzle(question{p: p, vars: []int{0}}) {
			same(t, text(name, i), strings.HasSuffix(line, " 2"), false)
		}
		s, e := puzzle.Solve(p)
		same(t, name, s, 0)
		same(t, name, e, api.OK)
	}
}

// TestNilIsEmpty: a nil slice and an empty one are the same.
func TestNilIsEmpty(t *testing.T) {
	for n := range 3 {
		none := question{p: problem{Vars: n}, r: rel{N: n}}
		empty := question{p: problem{Vars: n, Rels: []rel{}, Cons: []cons{}}, r: rel{N: n, Rows: []int{}}, vars: []int{}, lines: []line{}}
		sameText(t, text("nil", n), answers(none), answers(empty))
	}
	q := good()
	q.p.Cons = append(q.p.Cons, cons{Rel: 0})
	nilVars := answers(q)
	q.p.Cons[2].Vars = []int{}
	sameText(t, "no variables", answers(q), nilVars)
}

// manyQuestions returns questions of which the most arguments are valid.
func manyQuestions() []question {
	d := dice(29)
	list := []question{good(), unsolved(), {}, {op: -1, s: -1}}
	rels := everyRel()
	for _, p := range append(somePuzzles(8, 160), circle(3), circle(8), clauses()) {
		q := question{p: p, r: some(rels, 1, &d)[0], op: d.below(6), s: d.below(1 << p.Vars)}
		q.vars = some(numbers(0, p.Vars-1), 1+d.below(3), &d)
		if l := allLines(p); len(l) > 0 {
			q.lines = some(l, d.below(4), &d)
		}
		list = append(list, q)
	}
	return list
}

// TestAgain: the same calls give the same results, and change no argument.
func TestAgain(t *testing.T) {
	for _, q := range manyQuestions() {
		kept := q.clone()
		first := answers(q)
		for range 2 {
			sameText(t, "again", answers(q), first)
		}
		sameText(t, "arguments", q, kept)
	}
}

// spoil changes all elements of a slice, and what lies behind its end.
func spoil[T any](l []T, value T) {
	for i := range l[:cap(l)] {
		l[:cap(l)][i] = value
	}
}

// TestResultsAreNew: changing a result, or what lies behind its end, changes neither an
// argument nor a later result.
func TestResultsAreNew(t *testing.T) {
	for _, q := range manyQuestions() {
		kept := q.clone()
		first := answers(q)
		rows, _ := puzzle.Broken(q.r, q.op)
		hull, _ := puzzle.Hull(q.r, q.op)
		domains, _ := puzzle.Narrow(q.p)
		r, _ := puzzle.Project(q.p, q.vars)
		for _, l := range [][]int{rows, hull.Rows, domains, r.Rows} {
			spoil(l, -7)
		}
		odd, _ := puzzle.Odd(q.p)
		spoil(odd, line{-7, -7})
		sets, _ := puzzle.Pairs(q.p)
		for i, set := range sets {
			before := text(sets[i+1:])
			spoil(set, -7)
			sameText(t, "the other pairs", text(sets[i+1:]), before)
		}
		sameText(t, "arguments", q, kept)
		sameText(t, "results", answers(q), first)
	}
}

// TestRoomBehindArguments: what lies behind the end of an argument is not written.
func TestRoomBehindArguments(t *testing.T) {
	for _, given := range []question{good(), unsolved()} {
		for op := range takes {
			q := given.clone()
			q.op = op
			want := answers(q)
			var behind []any
			roomy := func(l []int) []int {
				longer := append(slices.Clone(l), 99, 99, 99, 99, 99, 99, 99, 99)
				behind = append(behind, longer[len(l):])
				return longer[:len(l)]
			}
			q.r.Rows, q.vars = roomy(q.r.Rows), roomy(q.vars)
			for i := range q.p.Rels {
				q.p.Rels[i].Rows = roomy(q.p.Rels[i].Rows)
			}
			for i := range q.p.Cons {
				q.p.Cons[i].Vars = roomy(q.p.Cons[i].Vars)
			}
			lines := append(slices.Clone(q.lines), line{99, 99})
			q.lines = lines[:len(q.lines)]
			sameText(t, "results", answers(q), want)
			for _, l := range behind {
				sameText(t, "behind", l, "[99 99 99 99 99 99 99 99]")
			}
			sameText(t, "behind", lines[len(q.lines)], "{99 99}")
		}
	}
}
