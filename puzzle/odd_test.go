package puzzle_test

import (
	"slices"
	"testing"

	"lampblack/api"
	"lampblack/puzzle"
)

// side returns the sum that all rows of its Rel have in the places of a Line, or false for
// what is no Line.
func side(p problem, l line) (int, bool) {
	if l.Cons < 0 || l.Cons >= len(p.Cons) {
		return 0, false
	}
	r := p.Rels[p.Cons[l.Cons].Rel]
	if l.Mask < 1 || l.Mask >= 1<<r.N {
		return 0, false
	}
	sums := map[int]bool{}
	sum := 0
	for _, row := range r.Rows {
		sum = 0
		for place := range r.N {
			sum += l.Mask >> place & 1 * (row >> place & 1)
		}
		sum %= 2
		sums[sum] = true
	}
	return sum, len(sums) == 1
}

// isProof goes by the definition.
func isProof(p problem, l []line) bool {
	times := map[int]int{}
	sides := 0
	for _, one := range l {
		s, ok := side(p, one)
		if !ok {
			return false
		}
		sides += s
		for place, v := range p.Cons[one.Cons].Vars {
			times[v] += one.Mask >> place & 1
		}
	}
	for _, n := range times {
		if n%2 == 1 {
			return false
		}
	}
	return len(l) <= 40 && sides%2 == 1
}

// allLines returns all Lines of a Puzzle.
func allLines(p problem) []line {
	var list []line
	for i := range p.Cons {
		for mask := range 8 {
			if _, ok := side(p, line{i, mask}); ok {
				list = append(list, line{i, mask})
			}
		}
	}
	return list
}

// canHold reports whether some values of the variables have the sums of all Lines. There is
// an odd proof if and only if there are no such values.
func canHold(p problem) bool {
	list := allLines(p)
	return slices.ContainsFunc(numbers(0, 1<<p.Vars-1), func(s int) bool {
		return !slices.ContainsFunc(list, func(l line) bool {
			want, _ := side(p, l)
			for place, v := range p.Cons[l.Cons].Vars {
				want += l.Mask >> place & 1 * (s >> v & 1)
			}
			return want%2 == 1
		})
	})
}

func TestOddExamples(t *testing.T) {
	differ, yes, no, even := newRel(2, 1, 2), newRel(1, 1), newRel(1, 0), newRel(3, 0, 3, 5, 6)
	table := []struct {
		name string
		p    problem
		want []line
	}{
		{"three different", circle(3), []line{{0, 3}, {1, 3}, {2, 3}}},
		{"seven different", circle(7), []line{{0, 3}, {1, 3}, {2, 3}, {3, 3}, {4, 3}, {5, 3}, {6, 3}}},
		{"different from itself", with(1, []rel{differ}, newCons(0, 0, 0)), []line{{0, 3}}},
		{"yes and no", with(8, []rel{yes, no}, newCons(0, 7), newCons(1, 7)), []line{{0, 1}, {1, 1}}},
		{"a pair of three", with(2, []rel{newRel(3, 1, 2, 5, 6)}, newCons(0, 1, 1, 0)), []line{{0, 3}}},
		{"twice in three", with(2, []rel{newRel(3, 1, 2, 4, 7), no}, newCons(0, 0, 1, 0), newCons(1, 1)), []line{{0, 7}, {1, 1}}},
		{"thrice", with(1, []rel{newRel(3, 1, 2, 4, 7), no}, newCons(0, 0, 0, 0), newCons(1, 0)), []line{{0, 7}, {1, 1}}},
		{"even, with two of it", with(3, []rel{even, yes, no}, newCons(0, 0, 1, 2), newCons(1, 0), newCons(2, 1), newCons(2, 2)), []line{{0, 7}, {1, 1}, {2, 1}, {3, 1}}},
	}
	for _, row := range table {
		l, e := puzzle.Odd(row.p)
		slices.SortFunc(l, func(a, b line) int { return a.Cons - b.Cons })
		sameText(t, row.name, text(l, e), text(row.want, api.OK))
		ok, e := puzzle.CheckOdd(row.p, row.want)
		same(t, row.name, ok, true)
		same(t, row.name, e, api.OK)
	}
}

func TestOddNone(t *testing.T) {
	table := map[string]problem{
		"no Cons":          {Vars: 3},
		"four different":   circle(4),
		"eight different":  circle(8),
		"one of any three": oneOfThree(), // there is no solution, but no Line either
		"chain":            with(3, []rel{newRel(2, 0, 2, 3)}, newCons(0, 0, 1), newCons(0, 1, 2)),
		"not named":        {Vars: 1, Rels: []rel{newRel(2, 1, 2)}, Cons: []cons{}},
		"all rows":         with(1, []rel{newRel(2, 0, 1, 2, 3)}, newCons(0, 0, 0)),
	}
	for name, p := range table {
		l, e := puzzle.Odd(p)
		sameText(t, name, text(l, e), "[] 4")
	}
}

// sumPuzzles returns count Puzzles of Rels of three places that are a sum: even, odd, or
// even and odd of the first two places.
func sumPuzzles(count int) []problem {
	d := dice(9)
	rels := []rel{newRel(3, 0, 3, 5, 6), newRel(3, 1, 2, 4, 7), newRel(3, 0, 3, 4, 7), newRel(3, 1, 2, 5, 6)}
	var list []problem
	for range count {
		list = append(list, puzzleOf(rels, 8, &d))
	}
	return list
}

// ends returns the Puzzle of n variables that are equal, of which the first is 1 and the
// last is 0.
func ends(n int) problem {
	p := problem{Vars: n, Rels: []rel{newRel(1, 0), newRel(1, 1), newRel(2, 0, 3)}, Cons: []cons{newCons(0, n-1), newCons(1, 0)}}
	for v := 1; v < n; v++ {
		p.Cons = append(p.Cons, newCons(2, v-1, v))
	}
	return p
}

// longPuzzles returns Puzzles whose odd proofs have 2 to 9 Lines.
func longPuzzles() []problem {
	list := []problem{circle(5), circle(7)}
	for n := 1; n <= 8; n++ {
		list = append(list, ends(n))
	}
	return list
}

// TestOddMany is P8.7 and, of all classes, the end of P8.13: a proof means that there is no
// solution.
func TestOddMany(t *testing.T) {
	counts := map[int]int{}
	for _, p := range slices.Concat(manyPuzzles(), sumPuzzles(1000), longPuzzles()) {
		want := api.OK
		if canHold(p) {
			want = api.ErrNone
		}
		l, e := puzzle.Odd(p)
		if e != want || isProof(p, l) != (e == api.OK) || e != api.OK && len(l) != 0 {
			t.Fatal(p, l, e, want)
		}
		if ok, f := puzzle.CheckOdd(p, l); ok != (e == api.OK) || f != api.OK {
			t.Fatal(p, l, ok, f)
		}
		if _, f := puzzle.Solve(p); e == api.OK && f != api.ErrNone {
			t.Fatal(p, l, f)
		}
		counts[len(l)]++
	}
	for n := range 10 {
		if counts[n] == 0 {
			t.Error("no proof of", n)
		}
	}
}

// TestOddOrSolved is P8.13: with sums in the class just one of Odd and Solve is OK, and the
// solutions are a power of 2, or none.
func TestOddOrSolved(t *testing.T) {
	odd, solved := 0, 0
	for _, p := range slices.Concat(manyPuzzles(), sumPuzzles(1000), longPuzzles()) {
		class, _ := puzzle.Class(p)
		if class>>5&1 == 0 {
			continue
		}
		l, e := puzzle.Odd(p)
		_, f := puzzle.Solve(p)
		n, _ := puzzle.Count(p)
		if (e == api.OK) == (f == api.OK) || n&(n-1) != 0 || (n > 0) != (f == api.OK) {
			t.Fatal(p, l, e, f, n)
		}
		if e == api.OK {
			odd++
		} else {
			solved++
		}
	}
	if odd < 100 || solved < 500 {
		t.Error(odd, solved)
	}
}

// TestCheckOddSmall compares with the definition for all slices of at most three Lines, and
// of what is none.
func TestCheckOddSmall(t *testing.T) {
	d := dice(7)
	list := append(some(smallPuzzles(), 30, &d), circle(3), with(2, []rel{newRel(3, 1, 2, 4, 7), newRel(1, 0)}, newCons(0, 0, 1, 0), newCons(1, 1)))
	list = append(list, some(slices.DeleteFunc(smallPuzzles(), canHold), 40, &d)...)
	accepted := 0
	for _, p := range list {
		var lines []line
		for i := -1; i <= len(p.Cons); i++ {
			for _, mask := range []int{-1, 0, 1, 2, 3, 4, 5, 6, 7, 8} {
				lines = append(lines, line{i, mask})
			}
		}
		for n := range 4 {
			for _, l := range slicesOf(lines, n) {
				if n == 3 && d.below(6) != 0 {
					continue
				}
				ok, e := puzzle.CheckOdd(p, l)
				if ok != isProof(p, l) || e != api.OK {
					t.Fatal(p, l, ok, e)
				}
				if ok {
					accepted++
				}
			}
		}
	}
	if accepted < 100 {
		t.Error("only", accepted)
	}
}

// TestCheckOddMany changes proofs a Line at a time.
func TestCheckOddMany(t *testing.T) {
	d := dice(13)
	accepted, refused := 0, 0
	for _, p := range append(somePuzzles(8, 1600), sumPuzzles(1000)...) {
		l, e := puzzle.Odd(p)
		for range 12 {
			if e != api.OK {
				break
			}
			l = slices.Insert(l, d.below(len(l)+1), some(allLines(p), 1, &d)...)
			if d.below(2) == 0 {
				i := d.below(len(l))
				l = slices.Delete(l, i, i+1)
			}
			ok, f := puzzle.CheckOdd(p, l)
			if ok != isProof(p, l) || f != api.OK {
				t.Fatal(p, l, ok, f)
			}
			if ok {
				accepted++
			} else {
				refused++
			}
		}
	}
	if accepted < 500 || refused < 500 {
		t.Error(accepted, refused)
	}
}

// TestCheckOddLong: 40 Lines are the most, in any order, each any number of times.
func TestCheckOddLong(t *testing.T) {
	p := with(1, []rel{newRel(2, 1, 2), newRel(2, 0, 3)}, newCons(0, 0, 0), newCons(1, 0, 0))
	for n := range 100 {
		for more := range 2 {
			l := append(slices.Repeat([]line{{0, 3}}, n), slices.Repeat([]line{{1, 3}}, more)...)
			ok, e := puzzle.CheckOdd(p, l)
			same(t, text(n, more), ok, n%2 == 1 && n+more <= 40)
			same(t, text(n, more), e, api.OK)
		}
	}
	ok, e := puzzle.CheckOdd(p, slices.Repeat([]line{{0, 3}}, 1000001))
	same(t, "very many", text(ok, e), "false 0")
}

// TestCheckOddOther: what is no Line is false, and no error.
func TestCheckOddOther(t *testing.T) {
	p := circle(3)
	p.Rels = append(p.Rels, newRel(1, 0))
	p.Cons = append(p.Cons, newCons(1, 0))
	bad := map[string][]line{
		"nil": nil, "empty": {}, "two of three": {{0, 3}, {1, 3}}, "one of them twice": {{0, 3}, {1, 3}, {2, 3}, {2, 3}}, "all of them twice": {{0, 3}, {1, 3}, {2, 3}, {0, 3}, {1, 3}, {2, 3}},
		"no places": {{0, 3}, {1, 3}, {2, 3}, {0, 0}}, "no places alone": {{0, 0}}, "not the same": {{0, 1}, {1, 3}, {2, 3}}, "not the same, twice": {{0, 3}, {1, 3}, {2, 3}, {0, 1}, {0, 1}},
		"one place too many": {{0, 7}, {1, 3}, {2, 3}}, "place beyond": {{0, 3}, {1, 3}, {2, 3}, {3, 2}, {3, 2}}, "negative": {{0, -1}, {1, 3}, {2, 3}}, "least": {{0, 3 | -1<<63}, {1, 3}, {2, 3}},
		"greatest": {{0, 1<<63 - 1}, {1, 3}, {2, 3}}, "no such Cons": {{0, 3}, {1, 3}, {4, 3}}, "minus one": {{0, 3}, {1, 3}, {-1, 3}}, "least Cons": {{0, 3}, {1, 3}, {-1 << 63, 3}},
		"greatest Cons": {{0, 3}, {1, 3}, {1<<63 - 1, 3}}, "no such Cons, twice": {{0, 3}, {1, 3}, {2, 3}, {4, 3}, {4, 3}},
	}
	for name, l := range bad {
		ok, e := puzzle.CheckOdd(p, l)
		same(t, name, ok, false)
		same(t, name, e, api.OK)
	}
	for _, l := range [][]line{{{0, 3}, {1, 3}, {2, 3}}, {{2, 3}, {0, 3}, {1, 3}}, {{2, 3}, {0, 3}, {3, 1}, {1, 3}, {3, 1}}} {
		ok, e := puzzle.CheckOdd(p, l)
		same(t, text(l), ok, true)
		same(t, text(l), e, api.OK)
	}
}
