package ears_test

import (
	"fmt"
	"slices"
	"testing"

	"lampblack/api"
	"lampblack/ears"
)

// question has an argument for each function.
type question struct {
	g       api.Graph
	s, end  int // of Number and Ways
	from    int // with end, of Cut
	ears    []ear
	numbers []int
	streets []street
}

func (q question) clone() question {
	c := q
	c.g, c.ears = slices.Clone(q.g), nil
	for _, e := range q.ears {
		c.ears = append(c.ears, slices.Clone(e))
	}
	c.numbers, c.streets = slices.Clone(q.numbers), slices.Clone(q.streets)
	return c
}

// answers returns the results of all functions as texts.
func answers(q question) []string {
	text := func(values ...any) string { return fmt.Sprint(values...) }
	bridges, e1 := ears.Bridges(q.g)
	cuts, e2 := ears.Cuts(q.g)
	blocks, e3 := ears.Blocks(q.g)
	list, e4 := ears.Ears(q.g)
	areEars, e5 := ears.CheckEars(q.g, q.ears)
	numbers, e6 := ears.Number(q.g, q.s, q.end)
	isNumbering, e7 := ears.CheckNumber(q.g, q.numbers)
	streets, e8 := ears.Orient(q.g)
	areStrong, e9 := ears.CheckOrient(q.g, q.streets)
	ways, e10 := ears.Ways(q.g, q.s, q.end)
	cut, e11 := ears.Cut(q.g, q.from, q.end)
	pairs, e12 := ears.Pairs(q.g)
	cactus, e13 := ears.Cactus(q.g)
	return []string{
		text(bridges, " ", e1), text(cuts, " ", e2), text(blocks, " ", e3), text(list, " ", e4), text(areEars, " ", e5),
		text(numbers, " ", e6), text(isNumbering, " ", e7), text(streets, " ", e8), text(areStrong, " ", e9),
		text(ways, " ", e10), text(cut, " ", e11), text(pairs, " ", e12), text(cactus, " ", e13),
	}
}

// refused are the results of all functions with ErrArg: every other result is zero.
func refused() []string {
	return []string{
		"[] 2", "0 2", "[] 2", "[] 2", "false 2", "[] 2", "false 2", "[] 2", "false 2", "[] 2", "0 2", "[] 2", "false 2",
	}
}

func TestGraphsNotValid(t *testing.T) {
	for name, g := range badGraphs() {
		good := question{g: g, s: 0, end: 1, from: 2, ears: []ear{{0, 1, 2, 0}}, numbers: []int{0, 1}, streets: []street{{0, 1}}}
		sameText(t, name, answers(good), refused())
		// ErrArg comes first, whatever else is wrong, or empty.
		sameText(t, name, answers(question{g: g}), refused())
		sameText(t, name, answers(question{g: g, s: -1, end: 64, from: 64, ears: []ear{{-1}}, numbers: []int{-1}, streets: []street{{-1, -1}}}), refused())
	}
}

func TestGraphsValid(t *testing.T) {
	for n := 4; n <= api.MaxEars; n++ {
		g := cycle(n)
		q := question{g: g, s: 0, end: 1, from: 3}
		q.ears, _ = ears.Ears(g)
		q.numbers, _ = ears.Number(g, 0, 1)
		q.streets, _ = ears.Orient(g)
		lines := answers(q)
		for _, line := range lines {
			if line[len(line)-2:] != " 0" {
				t.Error(g, line)
			}
		}
		for _, i := range []int{4, 6, 8, 12} {
			same(t, fmt.Sprint(g, i), lines[i], "true 0")
		}
	}
	same(t, "one node", answers(question{g: apart(1)})[8], "true 0")
}

// manyQuestions returns arguments of which the most are valid.
func manyQuestions() []question {
	d := dice(41)
	var list []question
	for _, g := range append(knownGraphs(), someGraphs(10, 20)...) {
		q := question{g: g, s: d.below(len(g)), end: d.below(len(g)), from: d.below(len(g))}
		if near := nodesOf(g[q.s]); len(near) > 0 {
			q.end = near[d.below(len(near))]
		}
		q.ears, _ = ears.Ears(g)
		q.numbers, _ = ears.Number(g, q.s, q.end)
		q.streets, _ = ears.Orient(g)
		list = append(list, q)
	}
	return list
}

// TestAgain: the same calls give the same results, and change no argument.
func TestAgain(t *testing.T) {
	for _, q := range manyQuestions() {
		kept := q.clone()
		first := answers(q)
		for range 5 {
			sameText(t, "again", answers(q), first)
		}
		sameText(t, "arguments", q, kept)
	}
}

// TestResultsAreNew: changing a result, or what lies behind its end, changes neither an
// argument, nor another part of the result, nor a later result.
func TestResultsAreNew(t *testing.T) {
	for _, q := range manyQuestions() {
		kept := q.clone()
		first := answers(q)
		bridges, _ := ears.Bridges(q.g)
		clear(bridges)
		blocks, _ := ears.Blocks(q.g)
		clear(blocks)
		pairs, _ := ears.Pairs(q.g)
		clear(pairs)
		numbers, _ := ears.Number(q.g, q.s, q.end)
		clear(numbers)
		streets, _ := ears.Orient(q.g)
		clear(streets)
		list, _ := ears.Ears(q.g)
		ways, _ := ears.Ways(q.g, q.s, q.end)
		for _, e := range list {
			ways = append(ways, e)
		}
		for i, way := range ways {
			later := fmt.Sprint(ways[i+1:])
			clear(way[:cap(way)])
			same(t, "other slices", fmt.Sprint(ways[i+1:]), later)
		}
		sameText(t, "arguments", q, kept)
		sameText(t, "results", answers(q), first)
	}
}
