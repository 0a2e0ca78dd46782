package puzzle_test

import (
	"slices"
	"testing"

	"lampblack/api"
	"lampblack/puzzle"
)

// pair is a value of a variable and a value of a variable.
type pair struct{ i, a, j, b int }

// rejected reports whether no row of some Cons that has both variables allows a pair.
func rejected(p problem, q pair) bool {
	return slices.ContainsFunc(p.Cons, func(c cons) bool {
		if !slices.Contains(c.Vars, q.i) || !slices.Contains(c.Vars, q.j) {
			return false
		}
		return !slices.ContainsFunc(p.Rels[c.Rel].Rows, func(row int) bool {
			for place, v := range c.Vars {
				if v == q.i && row>>place&1 != q.a || v == q.j && row>>place&1 != q.b {
					return false
				}
			}
			return fits(row, c.Vars)
		})
	})
}

// stuck reports whether for some variable no value makes with both values of a pair a pair
// that is left.
func stuck(p problem, left map[pair]bool, q pair) bool {
	for k := range p.Vars {
		goes := false
		for c := range 2 {
			goes = goes || left[pair{q.i, q.a, k, c}] && left[pair{k, c, q.j, q.b}]
		}
		if !goes {
			return true
		}
	}
	return false
}

// allPairs returns all pairs, in any order; a variable has one value at a time.
func allPairs(p problem, d *dice) []pair {
	var list []pair
	for i := range p.Vars {
		for j := range p.Vars {
			for set := range 4 {
				q := pair{i, set & 1, j, set >> 1}
				if i != j || q.a == q.b {
					list = slices.Insert(list, d.below(len(list)+1), q)
				}
			}
		}
	}
	return list
}

// paired takes away one pair after the other, in any order, as long as one can be.
func paired(p problem, d *dice) [][]int {
	left := map[pair]bool{}
	list := allPairs(p, d)
	for _, q := range list {
		left[q] = true
	}
	for again := true; again; {
		again = false
		for _, q := range list {
			if left[q] && (rejected(p, q) || stuck(p, left, q)) {
				left[q] = false
				again = true
			}
		}
	}
	sets := make([][]int, p.Vars)
	for i := range sets {
		sets[i] = make([]int, p.Vars)
	}
	for _, q := range list {
		if left[q] {
			sets[q.i][q.j] |= 1 << (q.a + 2*q.b)
		}
	}
	return sets
}

func noneLeft(sets [][]int) bool {
	return slices.ContainsFunc(sets, func(row []int) bool { return slices.Contains(row, 0) })
}

func TestPairsExamples(t *testing.T) {
	differ, yes, no, atMost := newRel(2, 1, 2), newRel(1, 1), newRel(1, 0), newRel(2, 0, 2, 3)
	table := []struct {
		name string
		p    problem
		want string
	}{
		{"one variable", problem{Vars: 1}, "[[9]] 0"},
		{"two variables", problem{Vars: 2}, "[[9 15] [15 9]] 0"},
		{"yes alone", with(1, []rel{yes}, newCons(0, 0)), "[[8]] 0"},
		{"yes and no alone", with(1, []rel{yes, no}, newCons(0, 0), newCons(1, 0)), "[] 4"},
		{"different from itself alone", with(1, []rel{differ}, newCons(0, 0, 0)), "[] 4"},
		{"yes", with(2, []rel{yes}, newCons(0, 0)), "[[8 10] [12 9]] 0"},
		{"no", with(2, []rel{no}, newCons(0, 1)), "[[9 3] [5 1]] 0"},
		{"different", with(2, []rel{differ}, newCons(0, 0, 1)), "[[9 6] [6 9]] 0"},
		{"at most", with(2, []rel{atMost}, newCons(0, 0, 1)), "[[9 13] [11 9]] 0"},
		{"three different", circle(3), "[] 4"},
		{"four different", circle(4), "[[9 6 9 6] [6 9 6 9] [9 6 9 6] [6 9 6 9]] 0"},
		{"seven different", circle(7), "[] 4"},
		{"at most two steps", with(3, []rel{atMost}, newCons(0, 0, 1), newCons(0, 1, 2)), "[[9 13 13] [11 9 13] [11 11 9]] 0"},
		{"in a circle", with(3, []rel{atMost}, newCons(0, 0, 1), newCons(0, 1, 2), newCons(0, 2, 0)), "[[9 9 9] [9 9 9] [9 9 9]] 0"},
		{"one of three", with(3, []rel{newRel(3, 1, 2, 4)}, newCons(0, 0, 1, 2)), "[[9 7 7] [7 9 7] [7 7 9]] 0"},
		{"one of three, two equal", with(2, []rel{newRel(3, 1, 2, 4)}, newCons(0, 0, 1, 0)), "[[1 4] [2 8]] 0"},
		{"even", with(3, []rel{newRel(3, 0, 3, 5, 6)}, newCons(0, 0, 1, 2)), "[[9 15 15] [15 9 15] [15 15 9]] 0"},
		{"even and odd", with(3, []rel{newRel(3, 0, 3, 5, 6), newRel(3, 1, 2, 4, 7)}, newCons(0, 0, 1, 2), newCons(1, 0, 1, 2)), "[[9 15 15] [15 9 15] [15 15 9]] 0"},
		{"another variable", with(3, []rel{yes, no}, newCons(0, 2), newCons(1, 2)), "[] 4"},
	}
	for _, row := range table {
		sets, e := puzzle.Pairs(row.p)
		sameText(t, row.name, text(sets, " ", e), row.want)
	}
}

// TestPairsMany is P8.6.
func TestPairsMany(t *testing.T) {
	d := dice(6)
	list := append(some(smallPuzzles(), 2000, &d), somePuzzles(3, 800)...)
	found, none := 0, 0
	for _, p := range append(list, somePuzzles(8, 800)...) {
		want, wantErr := paired(p, &d), api.OK
		if noneLeft(want) {
			want, wantErr = nil, api.ErrNone
			none++
		} else if len(p.Cons) > 1 {
			found++
		}
		if sets, e := puzzle.Pairs(p); text(sets) != text(want) || e != wantErr {
			t.Fatal(p, sets, e, want)
		}
	}
	if found < 500 || none < 500 {
		t.Error(found, none)
	}
}

// TestPairsHaveSolutions is P8.15 of Pairs.
func TestPairsHaveSolutions(t *testing.T) {
	for _, p := range manyPuzzles() {
		sets, e := puzzle.Pairs(p)
		for _, s := range solutions(p) {
			if e != api.OK {
				t.Fatal(p, e, s)
			}
			for i := range p.Vars {
				for j := range p.Vars {
					if sets[i][j]>>(s>>i&1+s>>j&1*2)&1 == 0 {
						t.Fatal(p, sets, s, i, j)
					}
				}
			}
		}
	}
}

// TestTwo is P8.12: with majority in the class there is a solution just if Pairs is OK.
func TestTwo(t *testing.T) {
	solved, none, narrow := 0, 0, 0
	for _, p := range append(manyPuzzles(), circle(5), circle(7), circle(8)) {
		class, _ := puzzle.Class(p)
		if class>>4&1 == 0 {
			continue
		}
		_, e := puzzle.Pairs(p)
		_, f := puzzle.Solve(p)
		if e != f {
			t.Fatal(p, e, f)
		}
		_, g := puzzle.Narrow(p)
		switch {
		case e == api.OK:
			solved++
		case g == api.OK:
			narrow++
		default:
			none++
		}
	}
	if solved < 500 || none < 100 || narrow < 10 {
		t.Error(solved, none, narrow)
	}
}
