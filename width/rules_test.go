package width_test

import (
	"fmt"
	"slices"
	"testing"

	"lampblack/api"
	"lampblack/width"
)

// question has an argument for each function.
type question struct {
	g       api.Graph
	order   []int
	t       tree
	l       []int
	a, b    int
	colours int
}

// answers returns the results of all functions as texts.
func answers(q question) []string {
	text := func(values ...any) string { return fmt.Sprint(values...) }
	w, e1 := width.Width(q.g)
	order, e2 := width.Order(q.g)
	along, e3 := width.Along(q.g, q.order)
	best, e4 := width.Decompose(q.g)
	checked, is, e5 := width.Check(q.g, q.t)
	bramble, e6 := width.Bramble(q.g)
	size, ok, e7 := width.CheckBramble(q.g, q.l)
	cover, e8 := width.Cover(q.g, q.l)
	touch, e9 := width.Touch(q.g, q.a, q.b)
	divide, e10 := width.Divide(q.g)
	narrow, e11 := width.Narrow(q.g, q.t)
	ways, e12 := width.Count(q.g, q.t, q.colours)
	return []string{
		text(w, " ", e1), text(order, " ", e2), text(along, " ", e3), text(best, " ", e4), text(checked, " ", is, " ", e5), text(bramble, " ", e6),
		text(size, " ", ok, " ", e7), text(cover, " ", e8), text(touch, " ", e9), text(divide, " ", e10), text(narrow, " ", e11), text(ways, " ", e12),
	}
}

// refused are the results of all functions with ErrArg: every other result is zero.
func refused() []string {
	return []string{
		"0 2", "[] 2", "0 2", "{[] []} 2", "0 false 2", "[] 2", "0 false 2", "0 2", "false 2", "0 2", "{[] []} 2", "0 2",
	}
}

// goodQuestion has arguments that are valid for any graph of n nodes.
func goodQuestion(g api.Graph) question {
	var order []int
	for v := range g {
		order = append(order, v)
	}
	return question{g: g, order: order, t: longTree(2, 1<<len(g)-1), l: []int{1}, a: 1, b: 1, colours: 6}
}

func TestGraphsNotValid(t *testing.T) {
	for name, g := range badGraphs() {
		sameText(t, name, answers(goodQuestion(g)), refused())
		// ErrArg comes first, whatever else is wrong.
		sameText(t, name, answers(question{g: g, order: []int{-1}, l: []int{-1}, a: -1, b: -1, colours: -1}), refused())
	}
}

func TestGraphsValid(t *testing.T) {
	for n := 1; n <= api.MaxWidth; n++ {
		for _, g := range []api.Graph{apart(n), path(n), complete(n), star(n)} {
			for _, line := range answers(goodQuestion(g)) {
				if line[len(line)-2:] != " 0" {
					t.Error(g, line)
				}
			}
		}
	}
}

// TestAgain: the same calls give the same results, and change no argument.
func TestAgain(t *testing.T) {
	d := dice(41)
	graphs := append(someGraphs(6, 5), someGraphs(9, 5)...)
	for _, g := range append(graphs, path(6), cycle(9), grid(3)) {
		q := question{g: g, order: shuffled(len(g), &d), t: someTree(g, &d), l: someBramble(g, &d), a: 1, b: 2, colours: 4}
		kept := question{g: slices.Clone(q.g), order: slices.Clone(q.order), t: cloneTree(q.t), l: slices.Clone(q.l), a: 1, b: 2, colours: 4}
		first := answers(q)
		for range 3 {
			sameText(t, "again", answers(q), first)
		}
		sameText(t, "arguments", q, kept)
	}
}

// TestResultsAreNew: changing a result changes neither an argument nor a later result.
func TestResultsAreNew(t *testing.T) {
	for _, g := range []api.Graph{path(6), cycle(6), apart(3)} {
		q := goodQuestion(g)
		kept := slices.Clone(g)
		first := answers(q)
		order, _ := width.Order(g)
		clear(order)
		best, _ := width.Decompose(g)
		clear(best.Bags)
		clear(best.Parent)
		bramble, _ := width.Bramble(g)
		clear(bramble)
		sameText(t, "graph", g, kept)
		sameText(t, "results", answers(q), first)
	}
}
