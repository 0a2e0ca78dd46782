package firm_test

import (
	"math/bits"
	"slices"
	"testing"

	"lampblack/api"
	"lampblack/calls"
	"lampblack/chase"
	"lampblack/ears"
	"lampblack/like"
	"lampblack/minor"
	"lampblack/puzzle"
	"lampblack/rounds"
	"lampblack/sweep"
	"lampblack/width"
)

// graphs returns towns, connected or not.
func graphs() []api.Graph {
	var list []api.Graph
	for _, changes := range towns() {
		l := newLedger()
		for _, c := range changes {
			l.do(c)
		}
		list = append(list, l.graph())
	}
	return list
}

// isConnected reports whether a graph is valid for chase: all but those that are connected
// are not.
func isConnected(g api.Graph) bool {
	_, e := chase.Core(g)
	return e == api.OK
}

// TestRefuted is P1: what a graph has is checked, and what it has not is refuted.
func TestRefuted(t *testing.T) {
	four, _ := minor.K(4)
	for _, g := range graphs() {
		if isConnected(g) {
			_, e := chase.Rounds(g, 1)
			places, isSafe := chase.Safe(g, 1)
			safe, _ := chase.CheckSafe(g, 1, places)
			same(t, "caught or safe", e == api.OK, isSafe == api.ErrNone)
			same(t, "safe places", safe, isSafe == api.OK)
		}
		n, _ := width.Width(g)
		bramble, _ := width.Bramble(g)
		order, isBramble, _ := width.CheckBramble(g, bramble)
		same(t, "bramble", isBramble && order == n+1, true)

		least, _ := sweep.Least(g)
		plan, _ := sweep.Plan(g)
		guards, _, isRight, _ := sweep.Play(g, plan)
		blockage, _ := sweep.Blockage(g, least-1)
		isBlocked, _ := sweep.CheckBlockage(g, least-1, blockage)
		same(t, "plan", isRight && guards == least, true)
		same(t, "blockage", isBlocked, true)

		together, e := ears.Ears(g)
		cuts, _ := ears.Cuts(g)
		if isConnected(g) && len(g) > 2 {
			same(t, "ears or cut nodes", e == api.OK, cuts == 0)
		}
		isTogether, _ := ears.CheckEars(g, together)
		same(t, "ears", isTogether, e == api.OK)

		_, e = minor.Reduce(g)
		model, isMinor := minor.Model(g, four)
		isModel, _ := minor.Check(g, four, model)
		same(t, "reductions or a minor", e == api.OK, isMinor == api.ErrNone)
		same(t, "minor", isModel, isMinor == api.OK)
	}
}

// TestRefusedOthers is P1 of what is no graph.
func TestRefusedOthers(t *testing.T) {
	d := dice(5)
	for range 200 {
		tasks := []int{1 + d.below(6), 1 + d.below(8), 1 + d.below(12)}
		round, e := rounds.Round(tasks)
		isRound, _ := rounds.CheckRound(tasks, round)
		last, isLast := rounds.Last(tasks)
		life, _ := rounds.Life(tasks, tasks)
		same(t, "a round or a last day", e == api.OK, isLast == api.ErrNone)
		same(t, "round", isRound, e == api.OK)
		same(t, "last day", isRound || len(last) == life, true)

		log := calls.Log{N: 4}
		for time := range 8 {
			a := d.below(4)
			log.Calls = append(log.Calls, calls.Call{A: a, B: (a + 1 + d.below(3)) % 4, Time: time + 1})
		}
		ways, _ := calls.Apart(log, 0, 3)
		cut, _ := calls.Cut(log, 0, 3)
		same(t, "cut", len(cut), len(ways))

		p := puzzle.Puzzle{Vars: 4, Rels: []puzzle.Rel{{N: 2, Rows: []int{1, 2}}, {N: 2, Rows: []int{0, 3}}}}
		for range 5 {
			p.Cons = append(p.Cons, puzzle.Cons{Rel: d.below(2), Vars: []int{d.below(4), d.below(4)}})
		}
		_, e = puzzle.Solve(p)
		odd, isOdd := puzzle.Odd(p)
		isProof, _ := puzzle.CheckOdd(p, odd)
		same(t, "a solution or an odd proof", e == api.OK, isOdd == api.ErrNone)
		same(t, "odd proof", isProof, isOdd == api.OK)
	}
}

// TestWidths is P2.
func TestWidths(t *testing.T) {
	for _, g := range graphs() {
		w, _ := width.Width(g)
		greatest, _ := minor.Greatest(g)
		guards, _ := sweep.Least(g)
		_, layout, _ := sweep.Layout(g)
		same(t, "minors", greatest <= w+1, true)
		same(t, "guards", w < guards && guards == layout+1 && guards <= len(g), true)
		tree, _ := width.Decompose(g)
		ways, _ := width.Count(g, tree, min(w+1, 6))
		same(t, "colours", ways > 0, w < 6)
		_, e := minor.Outer(g)
		same(t, "outer", e == api.ErrNone || w <= 2, true)
		if isConnected(g) && w < 2 {
			_, e = chase.Rounds(g, 1)
			same(t, "sweeps", e, api.OK)
		}
	}
}

// TestCounted is P3: along any tree decomposition, also a path.
func TestCounted(t *testing.T) {
	for _, g := range graphs() {
		tree, _ := width.Decompose(g)
		narrow, _ := width.Narrow(g, tree)
		layout, _, _ := sweep.Layout(g)
		bags, _ := sweep.Bags(g, layout)
		path := width.Tree{Bags: bags}
		for i := range bags {
			path.Parent = append(path.Parent, i-1)
		}
		for n := range 4 {
			for _, d := range []width.Tree{tree, narrow, path} {
				ways, e := width.Count(g, d, n)
				same(t, "ways", ways, colourings(g, nil, n))
				same(t, "ways", e, api.OK)
			}
		}
	}
}

// TestLike is P4.
func TestLike(t *testing.T) {
	isLarge := func(g api.Graph) bool { return len(g) > 6 }
	small := append(slices.DeleteFunc(graphs(), isLarge), api.Graph{34, 5, 10, 20, 40, 17}, api.Graph{6, 5, 3, 48, 40, 24})
	tree := api.Graph{2, 13, 2, 2}
	alike := 0
	for i, g := range small {
		for _, h := range small[max(0, i-12) : i+1] {
			isAlike, _ := like.Alike(g, h)
			x, e := like.Fraction(g, h)
			isFraction, _ := like.CheckFraction(g, h, x)
			same(t, "fraction", isFraction && e == api.OK, isAlike)
			if isAlike {
				m, _ := like.Maps(tree, g)
				n, _ := like.Maps(tree, h)
				same(t, "trees", m, n)
				alike++
			}
			for k := range 4 {
				win, _ := like.Win(g, h, k)
				f, e := like.Tell(g, h, k)
				same(t, "formula", e == api.ErrNone, win)
				if !win {
					inG, _ := like.Holds(g, f)
					inH, _ := like.Holds(h, f)
					same(t, "formula", inG && !inH, true)
				}
			}
		}
	}
	same(t, "enough", alike > len(small), true)
}

// TestForEver is P5: what is kept for a time is kept again.
func TestForEver(t *testing.T) {
	d := dice(23)
	kept := 0
	for range 200 {
		tasks := []int{1 + d.below(6), 1 + d.below(8), 1 + d.below(12)}
		if round, e := rounds.Round(tasks); e == api.OK {
			kept++
			i := d.below(len(round))
			later := slices.Concat(round[i:], round, round, round[:i])
			isRound, _ := rounds.CheckRound(tasks, later)
			same(t, "round", isRound, true)
		}
		table := rounds.Table{Period: 2 + d.below(6), Events: 3}
		for a := range 3 {
			low := d.below(5)
			table.Spans = append(table.Spans, rounds.Span{From: a, To: (a + 1) % 3, Low: low, High: low + d.below(3)})
		}
		times, e := rounds.Timetable(table)
		if e != api.OK {
			blame, _ := rounds.Blame(table)
			same(t, "blame", bits.OnesCount(uint(blame)) > 0, true)
			continue
		}
		kept++
		for i := range times {
			times[i] = (times[i] + 1) % table.Period
		}
		isRight, _ := rounds.Check(table, times)
		same(t, "timetable", isRight, true)
	}
	same(t, "enough", kept > 100, true)
}
