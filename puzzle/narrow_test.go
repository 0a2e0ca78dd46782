package puzzle_test

import (
	"slices"
	"testing"

	"lampblack/api"
	"lampblack/puzzle"
)

// supported reports whether some row of the Rel of a Cons has a value at a place, gives
// equal values to equal variables, and has all values in the domains.
func supported(p problem, c cons, place, value int, domains []int) bool {
	return slices.ContainsFunc(p.Rels[c.Rel].Rows, func(row int) bool {
		for i, v := range c.Vars {
			if domains[v]>>(row>>i&1)&1 == 0 {
				return false
			}
		}
		return row>>place&1 == value && fits(row, c.Vars)
	})
}

// lost returns a variable and a value of its domain that some Cons does not support, from
// the Cons of a list of indices, or false if the domains are consistent.
func lost(p problem, domains, order []int) (v, value int, ok bool) {
	for _, i := range order {
		c := p.Cons[i]
		for place, v := range c.Vars {
			for value := range 2 {
				if domains[v]>>value&1 == 1 && !supported(p, c, place, value, domains) {
					return v, value, true
				}
			}
		}
	}
	return 0, 0, false
}

// narrowed takes away one value after the other, in any order.
func narrowed(p problem, d *dice) []int {
	domains := slices.Repeat([]int{3}, p.Vars)
	for {
		v, value, ok := lost(p, domains, shuffled(len(p.Cons), d))
		if !ok {
			return domains
		}
		domains[v] &^= 1 << value
	}
}

// greatest returns what all consistent domains have together.
func greatest(p problem) []int {
	union := make([]int, p.Vars)
	for _, domains := range slicesOf(numbers(0, 3), p.Vars) {
		if _, _, ok := lost(p, domains, numbers(0, len(p.Cons)-1)); !ok {
			for v := range union {
				union[v] |= domains[v]
			}
		}
	}
	return union
}

func narrowIs(t *testing.T, p problem, want []int) {
	t.Helper()
	wantErr := api.OK
	if slices.Contains(want, 0) {
		want, wantErr = nil, api.ErrNone
	}
	if got, e := puzzle.Narrow(p); !slices.Equal(got, want) || e != wantErr {
		t.Fatal(p, got, e, want)
	}
}

func TestNarrowExamples(t *testing.T) {
	yes, atMost := newRel(1, 1), newRel(2, 0, 2, 3)
	table := []struct {
		name string
		p    problem
		want string
	}{
		{"no Cons", problem{Vars: 3}, "[3 3 3] 0"},
		{"three different", circle(3), "[3 3 3] 0"},
		{"eight different", circle(8), "[3 3 3 3 3 3 3 3] 0"},
		{"different from itself", with(1, []rel{newRel(2, 1, 2)}, newCons(0, 0, 0)), "[] 4"},
		{"different from itself, and others", with(3, []rel{newRel(2, 1, 2)}, newCons(0, 1, 1)), "[] 4"},
		{"at most itself", with(1, []rel{atMost}, newCons(0, 0, 0)), "[3] 0"},
		{"one of three", with(3, []rel{newRel(3, 1, 2, 4)}, newCons(0, 0, 1, 2)), "[3 3 3] 0"},
		{"one of three, two equal", with(3, []rel{newRel(3, 1, 2, 4)}, newCons(0, 0, 2, 0)), "[1 3 2] 0"},
		{"yes", with(2, []rel{yes}, newCons(0, 1)), "[3 2] 0"},
		{"no", with(2, []rel{newRel(1, 0)}, newCons(0, 1)), "[3 1] 0"},
		{"yes and no", with(2, []rel{yes, newRel(1, 0)}, newCons(0, 1), newCons(1, 1)), "[] 4"},
		{"forward", with(4, []rel{atMost, yes}, newCons(0, 2, 3), newCons(0, 1, 2), newCons(0, 0, 1), newCons(1, 0)), "[2 2 2 2] 0"},
		{"backward", with(4, []rel{atMost, newRel(1, 0)}, newCons(0, 0, 1), newCons(0, 1, 2), newCons(1, 2)), "[1 1 1 3] 0"},
		{"chain", chain(), "[] 4"},
		{"one of any three", oneOfThree(), "[3 3 3 3] 0"},
	}
	for _, row := range table {
		domains, e := puzzle.Narrow(row.p)
		sameText(t, row.name, text(domains, " ", e), row.want)
	}
}

// TestNarrowSmall is P8.5 with all domains there are.
func TestNarrowSmall(t *testing.T) {
	for _, p := range append(smallPuzzles(), somePuzzles(4, 400)...) {
		narrowIs(t, p, greatest(p))
	}
}

// TestNarrowMany is P8.5 for up to eight variables.
func TestNarrowMany(t *testing.T) {
	d := dice(5)
	counts := map[int]int{} // of the values taken away
	for _, p := range somePuzzles(8, 2400) {
		domains := narrowed(p, &d)
		narrowIs(t, p, domains)
		taken := 0
		for _, set := range domains {
			if set == 1 || set == 2 {
				taken++
			}
		}
		if !slices.Contains(domains, 0) {
			counts[taken]++
		}
	}
	for taken := range 5 {
		if counts[taken] < 20 {
			t.Error("only", counts[taken], "of", taken)
		}
	}
}

// TestNarrowHasSolutions is P8.15 of Narrow.
func TestNarrowHasSolutions(t *testing.T) {
	for _, p := range manyPuzzles() {
		domains, e := puzzle.Narrow(p)
		for _, s := range solutions(p) {
			if e != api.OK {
				t.Fatal(p, e, s)
			}
			for v, set := range domains {
				if set>>(s>>v&1)&1 == 0 {
					t.Fatal(p, domains, s)
				}
			}
		}
	}
}

// TestAndOr is P8.11: with and, or or, in the class there is a solution just if Narrow is
// OK: the least, or the greatest, values.
func TestAndOr(t *testing.T) {
	counts := map[string]int{}
	for _, p := range manyPuzzles() {
		class, _ := puzzle.Class(p)
		domains, e := puzzle.Narrow(p)
		_, f := puzzle.Solve(p)
		for _, op := range []int{2, 3} {
			if class>>op&1 == 0 {
				continue
			}
			counts[text(op, e)]++
			if e != f {
				t.Fatal(p, op, domains, e, f)
			}
			if e == api.OK && !solves(p, extreme(domains, op)) {
				t.Fatal(p, op, domains)
			}
		}
	}
	if counts["2 0"] < 100 || counts["2 4"] < 100 || counts["3 0"] < 100 || counts["3 4"] < 100 {
		t.Error(counts)
	}
}

// extreme returns the number in which every variable has the least value of its domain if
// op is and, else the greatest.
func extreme(domains []int, op int) int {
	s := 0
	for v, set := range domains {
		if set == 2 || set == 3 && op == 3 {
			s |= 1 << v
		}
	}
	return s
}
