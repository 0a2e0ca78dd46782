package puzzle_test

import (
	"math/bits"
	"slices"
	"testing"

	"lampblack/api"
	"lampblack/puzzle"
)

// oneOfThree returns a Puzzle that needs just one of any three of four variables.
func oneOfThree() problem {
	return problem{Vars: 4, Rels: []rel{newRel(3, 1, 2, 4)}, Cons: []cons{newCons(0, 0, 1, 2), newCons(0, 1, 2, 3), newCons(0, 0, 2, 3), newCons(0, 0, 1, 3)}}
}

// chain returns a Puzzle in which the first variable is 1, each is at most the next, and the
// last is 0.
func chain() problem {
	return problem{
		Vars: 3, Rels: []rel{newRel(1, 1), newRel(2, 0, 2, 3), newRel(1, 0)},
		Cons: []cons{newCons(0, 0), newCons(1, 0, 1), newCons(1, 1, 2), newCons(2, 2)},
	}
}

func TestPuzzleExamples(t *testing.T) {
	table := []struct {
		name string
		p    problem
		want string // the class, the least solution, the number of solutions, the blame
	}{
		{"no Cons", problem{Vars: 3}, "63 0, 0 0, 8 0, 0 4"},
		{"eight free variables", problem{Vars: 8}, "63 0, 0 0, 256 0, 0 4"},
		{"three different", circle(3), "48 0, 0 4, 0 0, 7 0"},
		{"four different", circle(4), "48 0, 5 0, 2 0, 0 4"},
		{"eight different", circle(8), "48 0, 85 0, 2 0, 0 4"},
		{"different from itself", with(1, []rel{newRel(2, 1, 2)}, newCons(0, 0, 0)), "48 0, 0 4, 0 0, 1 0"},
		{"at least itself", with(2, []rel{newRel(2, 0, 2, 3)}, newCons(0, 1, 1)), "31 0, 0 0, 4 0, 0 4"},
		{"one of three", problem{Vars: 3, Rels: []rel{newRel(3, 1, 2, 4)}, Cons: []cons{newCons(0, 2, 1, 0)}}, "0 0, 1 0, 3 0, 0 4"},
		{"one of any three", oneOfThree(), "0 0, 0 4, 0 0, 15 0"},
		{"chain", chain(), "28 0, 0 4, 0 0, 15 0"},
		{"not named", problem{Vars: 2, Rels: []rel{newRel(1, 1), newRel(3, 1, 2, 4)}, Cons: []cons{newCons(0, 1)}}, "62 0, 2 0, 2 0, 0 4"},
		{"in order", with(2, []rel{newRel(2, 2)}, newCons(0, 0, 1)), "60 0, 2 0, 1 0, 0 4"},
		{"backward", with(2, []rel{newRel(2, 2)}, newCons(0, 1, 0)), "60 0, 1 0, 1 0, 0 4"},
		{"yes and no", with(8, []rel{newRel(1, 0), newRel(1, 1)}, newCons(1, 7), newCons(0, 7)), "60 0, 0 4, 0 0, 3 0"},
		{"the least of two", with(1, []rel{newRel(1, 0), newRel(1, 1)}, newCons(1, 0), newCons(1, 0), newCons(0, 0), newCons(0, 0)), "60 0, 0 4, 0 0, 5 0"},
		{"fewer before less", with(3, []rel{newRel(2, 1, 2), newRel(1, 0), newRel(1, 1)}, newCons(0, 0, 1), newCons(0, 1, 2), newCons(0, 2, 0), newCons(1, 2), newCons(2, 2)), "48 0, 0 4, 0 0, 24 0"},
	}
	for _, row := range table {
		class, e1 := puzzle.Class(row.p)
		least, e2 := puzzle.Solve(row.p)
		n, e3 := puzzle.Count(row.p)
		blame, e4 := puzzle.Blame(row.p)
		got := text(class, e1, ", ", least, e2, ", ", n, e3, ", ", blame, e4)
		sameText(t, row.name, got, row.want)
	}
}

// classOf goes by the definition.
func classOf(p problem) int {
	set := 0
	for op := range takes {
		named := func(c cons) bool {
			_, broken := breaks(p.Rels[c.Rel], op)
			return broken
		}
		if !slices.ContainsFunc(p.Cons, named) {
			set |= 1 << op
		}
	}
	return set
}

// TestClassMany is P8.3.
func TestClassMany(t *testing.T) {
	seen := map[int]int{}
	for _, p := range somePuzzles(8, 1200) {
		class, e := puzzle.Class(p)
		if class != classOf(p) || e != api.OK {
			t.Fatal(p, class, e)
		}
		seen[class]++
	}
	for op := range takes {
		if seen[1<<op] == 0 {
			t.Error("no puzzle of the operation alone", op)
		}
	}
	for _, r := range everyRel() {
		p := problem{Vars: 1, Rels: []rel{r}, Cons: []cons{newCons(0, make([]int, r.N)...)}}
		if class, e := puzzle.Class(p); class != classOf(p) || e != api.OK {
			t.Fatal(p, class, e)
		}
	}
}

// TestSolveMany is P8.4.
func TestSolveMany(t *testing.T) {
	none := 0
	for _, p := range manyPuzzles() {
		list := solutions(p)
		wantLeast, wantErr := 0, api.ErrNone
		if len(list) > 0 {
			wantLeast, wantErr = list[0], api.OK
		} else {
			none++
		}
		if s, e := puzzle.Solve(p); s != wantLeast || e != wantErr {
			t.Fatal(p, s, e)
		}
		if n, e := puzzle.Count(p); n != len(list) || e != api.OK {
			t.Fatal(p, n, e)
		}
		for s := -2; s < 1<<p.Vars+2; s++ {
			if ok, e := puzzle.Check(p, s); ok != slices.Contains(list, s) || e != api.OK {
				t.Fatal(p, s, ok, e)
			}
		}
	}
	if none < 500 {
		t.Error("only", none)
	}
}

// TestCheckOther: what is no number for the variables is false, and no error.
func TestCheckOther(t *testing.T) {
	for _, s := range []int{-1, -8, 8, 9, 256, 1 << 40, -1 << 40, -1 << 63, 1<<63 - 1} {
		ok, e := puzzle.Check(problem{Vars: 3}, s)
		same(t, text(s), ok, false)
		same(t, text(s), e, api.OK)
	}
}

// projected goes by the definition.
func projected(p problem, vars []int) rel {
	r := newRel(len(vars))
	for row := range 1 << len(vars) {
		has := func(s int) bool {
			for place, v := range vars {
				if s>>v&1 != row>>place&1 {
					return false
				}
			}
			return true
		}
		if slices.ContainsFunc(solutions(p), has) {
			r.Rows = append(r.Rows, row)
		}
	}
	return r
}

func TestProjectExamples(t *testing.T) {
	table := []struct {
		p    problem
		vars []int
		want string
	}{
		{problem{Vars: 2}, []int{0}, "{1 [0 1]} 0"},
		{problem{Vars: 2}, []int{0, 1}, "{2 [0 1 2 3]} 0"},
		{problem{Vars: 2}, []int{1, 1}, "{2 [0 3]} 0"},
		{problem{Vars: 2}, []int{1, 0, 1}, "{3 [0 2 5 7]} 0"},
		{problem{Vars: 1}, []int{0, 0, 0}, "{3 [0 7]} 0"},
		{circle(4), []int{0, 2}, "{2 [0 3]} 0"},
		{circle(4), []int{3, 0}, "{2 [1 2]} 0"},
		{circle(8), []int{7, 0, 5}, "{3 [2 5]} 0"},
		{circle(3), []int{0, 1}, "{0 []} 4"},
		{circle(3), []int{0}, "{0 []} 4"},
		{with(3, []rel{newRel(2, 2)}, newCons(0, 0, 1)), []int{0, 1, 2}, "{3 [2 6]} 0"},
		{with(3, []rel{newRel(2, 2)}, newCons(0, 0, 1)), []int{1, 0}, "{2 [1]} 0"},
	}
	for _, row := range table {
		r, e := puzzle.Project(row.p, row.vars)
		sameText(t, text(row.p, row.vars), text(r, " ", e), row.want)
	}
}

// TestProjectMany is P8.8.
func TestProjectMany(t *testing.T) {
	d := dice(8)
	list := some(smallPuzzles(), 400, &d)
	list = append(list, somePuzzles(8, 400)...)
	for _, p := range list {
		for n := 1; n <= 3; n++ {
			for _, vars := range some(slicesOf(numbers(0, p.Vars-1), n), 4, &d) {
				want, wantErr := projected(p, vars), api.OK
				if len(want.Rows) == 0 {
					want, wantErr = rel{}, api.ErrNone
				}
				r, e := puzzle.Project(p, vars)
				if text(r) != text(want) || e != wantErr {
					t.Fatal(p, vars, r, e)
				}
			}
		}
	}
}

// TestProjectBad: what is not one to three variables is refused, also if there is no
// solution.
func TestProjectBad(t *testing.T) {
	bad := [][]int{
		nil, {}, {0, 1, 2, 0}, {0, 0, 0, 0}, {3}, {0, 3}, {0, 1, 3}, {-1}, {0, -1}, {-1, 0, 0}, {1 << 40}, {-1 << 63}, {1<<63 - 1}, make([]int, 1000000),
	}
	for _, p := range []problem{{Vars: 3}, circle(3)} {
		for _, vars := range bad {
			r, e := puzzle.Project(p, vars)
			sameText(t, text("project", len(vars)), text(r, " ", e), "{0 []} 2")
		}
	}
}

// TestKept is P8.10: the operations of the class keep every Project, and make solutions of
// solutions.
func TestKept(t *testing.T) {
	d := dice(10)
	tried := make([]int, len(takes))
	for _, p := range append(some(smallPuzzles(), 500, &d), somePuzzles(8, 1200)...) {
		class, _ := puzzle.Class(p)
		vars := some(numbers(0, p.Vars-1), 1+d.below(3), &d)
		r, e := puzzle.Project(p, vars)
		for op := range takes {
			if class>>op&1 == 0 || e != api.OK {
				continue
			}
			tried[op]++
			if ok, e := puzzle.Keeps(r, op); !ok || e != api.OK {
				t.Fatal(p, op, vars, r)
			}
			list := solutions(p)
			for range 20 {
				s := result(op, p.Vars, some(list, takes[op], &d))
				if ok, e := puzzle.Check(p, s); !ok || e != api.OK {
					t.Fatal(p, op, s)
				}
			}
		}
	}
	if slices.Min(tried) < 100 {
		t.Error(tried)
	}
}

// TestOnesAndNoughts is the first part of P8.11: all 0, or all 1, is a solution.
func TestOnesAndNoughts(t *testing.T) {
	tried := 0
	for _, p := range manyPuzzles() {
		class, _ := puzzle.Class(p)
		for op, s := range []int{0, 1<<p.Vars - 1} {
			if class>>op&1 == 0 {
				continue
			}
			tried++
			ok, e := puzzle.Check(p, s)
			if _, f := puzzle.Solve(p); !ok || e != api.OK || f != api.OK {
				t.Fatal(p, op, ok, e, f)
			}
		}
	}
	if tried < 1000 {
		t.Error("only", tried)
	}
}

// TestMore is the first part of P8.15: without its last Cons a Puzzle has all solutions.
func TestMore(t *testing.T) {
	for _, p := range manyPuzzles() {
		if len(p.Cons) == 0 {
			continue
		}
		less := p
		less.Cons = p.Cons[:len(p.Cons)-1]
		few, _ := puzzle.Count(p)
		many, _ := puzzle.Count(less)
		if few > many {
			t.Fatal(p, few, many)
		}
		for s := range 1 << p.Vars {
			in, _ := puzzle.Check(p, s)
			if out, _ := puzzle.Check(less, s); in && !out {
				t.Fatal(p, s)
			}
		}
	}
}

// only returns a Puzzle with a set of its Cons.
func only(p problem, set int) problem {
	q := p
	q.Cons = nil
	for i, c := range p.Cons {
		if set>>i&1 == 1 {
			q.Cons = append(q.Cons, c)
		}
	}
	return q
}

// blamed tries all sets of Cons in order, and keeps the first with the fewest.
func blamed(p problem) (int, bool) {
	holding := make([]int, 1<<p.Vars) // for each number, the Cons that it keeps
	for s := range holding {
		for i, c := range p.Cons {
			if holds(p, c, s) {
				holding[s] |= 1 << i
			}
		}
	}
	best, found := 0, false
	for set := range 1 << len(p.Cons) {
		solved := slices.ContainsFunc(holding, func(kept int) bool { return kept&set == set })
		if !solved && (!found || bits.OnesCount(uint(set)) < bits.OnesCount(uint(best))) {
			best, found = set, true
		}
	}
	return best, found
}

// TestBlameMany is P8.9 and P8.16.
func TestBlameMany(t *testing.T) {
	counts := map[int]int{}
	for _, p := range append(manyPuzzles(), circle(5), circle(7), oneOfThree(), chain()) {
		want, found := blamed(p)
		wantErr := api.ErrNone
		if found {
			wantErr = api.OK
		}
		set, e := puzzle.Blame(p)
		if set != want || e != wantErr {
			t.Fatal(p, set, e, want)
		}
		counts[bits.OnesCount(uint(set))]++
		if !found {
			continue
		}
		if s, e := puzzle.Solve(only(p, set)); e != api.ErrNone {
			t.Fatal(p, set, s, e)
		}
		for i := range p.Cons {
			if set>>i&1 == 1 && len(solutions(only(p, set&^(1<<i)))) == 0 {
				t.Fatal(p, set, i)
			}
		}
	}
	for n := 1; n <= 5; n++ {
		if counts[n] == 0 {
			t.Error("no blame of", n)
		}
	}
}

// clauses returns a Puzzle of twelve Cons, all of which are needed that there is no solution:
// eight of them each leave out one row of variables 0 to 2, but four have in place of
// variable 0 another one that is at most variable 0.
func clauses() problem {
	p := problem{Vars: 7}
	for n := range 4 { // the Rel of the rows in which not the first n are 1, and the others 0
		r := rel{N: 3}
		for row := range 8 {
			if row != 1<<n-1 {
				r.Rows = append(r.Rows, row)
			}
		}
		p.Rels = append(p.Rels, r)
	}
	p.Rels = append(p.Rels, newRel(2, 0, 2, 3))
	for out := range 8 {
		var ones, noughts []int
		for v := range 3 {
			if out>>v&1 == 1 {
				ones = append(ones, v)
			} else {
				noughts = append(noughts, v)
			}
		}
		if out%2 == 0 {
			noughts[0] = 3 + out/2
			p.Cons = append(p.Cons, newCons(4, noughts[0], 0))
		}
		p.Cons = append(p.Cons, newCons(len(ones), append(ones, noughts...)...))
	}
	return p
}

func TestBlameAll(t *testing.T) {
	set, e := puzzle.Blame(clauses())
	same(t, "all", set, 4095)
	same(t, "all", e, api.OK)
	for i := range 12 {
		p := only(clauses(), 4095&^(1<<i))
		set, e = puzzle.Blame(p)
		same(t, text("without", i), set, 0)
		same(t, text("without", i), e, api.ErrNone)
	}
}

// TestBlameLeast: of three Cons that are equal the first one is blamed, and of the last two,
// which say the same, the first, too.
func TestBlameLeast(t *testing.T) {
	p := problem{Vars: 8, Rels: []rel{newRel(2, 0, 3), newRel(2, 1, 2)}}
	for range 3 {
		p.Cons = append(p.Cons, newCons(0, 0, 1))
	}
	for v := 1; v < 7; v++ {
		p.Cons = append(p.Cons, newCons(0, v, v+1))
	}
	p.Cons = append(p.Cons, newCons(0, 7, 7), newCons(1, 7, 0), newCons(1, 0, 7))
	set, e := puzzle.Blame(p)
	same(t, "set", set, 1|63<<3|1<<10)
	same(t, "set", e, api.OK)
}
