package sweep_test

import (
	"fmt"
	"slices"
	"testing"

	"lampblack/api"
	"lampblack/sweep"
)

// question has an argument for each function.
type question struct {
	g         api.Graph
	layout    []int
	bags      []int
	plan      []act
	blockages []int
	k         int
}

func (q question) clone() question {
	return question{
		g: slices.Clone(q.g), layout: slices.Clone(q.layout), bags: slices.Clone(q.bags), plan: slices.Clone(q.plan),
		blockages: slices.Clone(q.blockages), k: q.k,
	}
}

// answers returns the results of all functions as texts.
func answers(q question) []string {
	text := func(values ...any) string { return fmt.Sprint(values...) }
	n, e1 := sweep.Breadth(q.g, q.layout)
	layout, w, e2 := sweep.Layout(q.g)
	bags, e3 := sweep.Bags(q.g, q.layout)
	wide, is, e4 := sweep.Check(q.g, q.bags)
	guards, back, right, e5 := sweep.Play(q.g, q.plan)
	plan, e6 := sweep.Plan(q.g)
	follow, e7 := sweep.Follow(q.g, q.bags)
	blockage, e8 := sweep.Blockage(q.g, q.k)
	ok, e9 := sweep.CheckBlockage(q.g, q.k, q.blockages)
	least, e10 := sweep.Least(q.g)
	return []string{
		text(n, " ", e1), text(layout, " ", w, " ", e2), text(bags, " ", e3), text(wide, " ", is, " ", e4), text(guards, " ", back, " ", right, " ", e5),
		text(plan, " ", e6), text(follow, " ", e7), text(blockage, " ", e8), text(ok, " ", e9), text(least, " ", e10),
	}
}

// refused are the results of all functions with ErrArg: every other result is zero.
func refused() []string {
	return []string{"0 2", "[] 0 2", "[] 2", "0 false 2", "0 false false 2", "[] 2", "[] 2", "[] 2", "false 2", "0 2"}
}

// goodQuestion has arguments that are valid for any graph of n nodes.
func goodQuestion(g api.Graph) question {
	q := question{g: g, bags: []int{1<<len(g) - 1}, blockages: []int{0}}
	for v := range g {
		q.layout = append(q.layout, v)
		q.plan = append(q.plan, place(v))
	}
	return q
}

func TestGraphsNotValid(t *testing.T) {
	for name, g := range badGraphs() {
		sameText(t, name, answers(goodQuestion(g)), refused())
		// ErrArg comes first, whatever else is wrong.
		sameText(t, name, answers(question{g: g, layout: []int{-1}, bags: []int{-1}, plan: []act{remove(-1)}, blockages: []int{-1}, k: -1}), refused())
		sameText(t, name, answers(question{g: g, k: 7}), refused())
	}
}

func TestGraphsValid(t *testing.T) {
	for n := 1; n <= api.MaxSweep; n++ {
		for _, g := range []api.Graph{apart(n), path(n), complete(n), star(n)} {
			lines := answers(goodQuestion(g))
			for _, line := range lines {
				if line[len(line)-2:] != " 0" {
					t.Error(g, line)
				}
			}
			same(t, fmt.Sprint(g), lines[4], fmt.Sprint(n, " false true 0"))
		}
	}
}

// manyQuestions returns arguments of which the most are valid.
func manyQuestions() []question {
	d := dice(41)
	graphs := append(someGraphs(6, 8), someGraphs(7, 8)...)
	var list []question
	for _, g := range append(graphs, path(6), cycle(7), spider(), apart(1)) {
		_, k, _ := sweep.Layout(g)
		q := question{g: g, layout: shuffled(len(g), &d), bags: someBags(g, &d), plan: somePlan(g, len(g), &d), k: k}
		q.blockages, _ = sweep.Blockage(g, k)
		list = append(list, q)
	}
	return list
}

// TestAgain: the same calls give the same results, and change no argument.
func TestAgain(t *testing.T) {
	for _, q := range manyQuestions() {
		kept := q.clone()
		first := answers(q)
		for range 3 {
			sameText(t, "again", answers(q), first)
		}
		sameText(t, "arguments", q, kept)
	}
}

// TestResultsAreNew: changing a result changes neither an argument nor a later result.
func TestResultsAreNew(t *testing.T) {
	for _, q := range manyQuestions() {
		kept := q.clone()
		first := answers(q)
		layout, _, _ := sweep.Layout(q.g)
		clear(layout)
		bags, _ := sweep.Bags(q.g, q.layout)
		clear(bags)
		plan, _ := sweep.Plan(q.g)
		clear(plan)
		follow, _ := sweep.Follow(q.g, q.bags)
		clear(follow)
		blockage, _ := sweep.Blockage(q.g, q.k)
		clear(blockage)
		sameText(t, "arguments", q, kept)
		sameText(t, "results", answers(q), first)
	}
}

// TestRoomBehindArguments: what lies behind the end of an argument is not written.
func TestRoomBehindArguments(t *testing.T) {
	bags := []int{1, 3, 6, 99, 99}
	plan, e := sweep.Follow(path(3), bags[:3])
	same(t, "acts", len(plan), 6)
	same(t, "acts", e, api.OK)
	sameText(t, "bags", bags, []int{1, 3, 6, 99, 99})
}
