package minor_test

import (
	"slices"
	"strings"
	"testing"

	"lampblack/api"
	"lampblack/minor"
)

// question has an argument for each function.
type question struct {
	g, pattern api.Graph
	model      []int
	steps      []step
	order      []int
	a, b, n    int
}

func (q question) clone() question {
	c := q
	c.g, c.pattern, c.model = slices.Clone(q.g), slices.Clone(q.pattern), slices.Clone(q.model)
	c.steps, c.order = slices.Clone(q.steps), slices.Clone(q.order)
	return c
}

// ofPattern returns the results of the functions of a graph and a pattern as texts.
func ofPattern(q question) []string {
	model, e1 := minor.Model(q.g, q.pattern)
	ok, e2 := minor.Check(q.g, q.pattern, q.model)
	return []string{text(model, " ", e1), text(ok, " ", e2)}
}

// ofGraph returns the results of the functions of a graph as texts.
func ofGraph(q question) []string {
	steps, e1 := minor.Reduce(q.g)
	reduced, e2 := minor.CheckReduce(q.g, q.steps)
	order, e3 := minor.Outer(q.g)
	outer, e4 := minor.CheckOuter(q.g, q.order)
	greatest, e5 := minor.Greatest(q.g)
	apex, e6 := minor.Apex(q.g)
	less, e7 := minor.Delete(q.g, q.a)
	joined, e8 := minor.Contract(q.g, q.a, q.b)
	return []string{
		text(steps, " ", e1), text(reduced, " ", e2), text(order, " ", e3), text(outer, " ", e4), text(greatest, " ", e5), text(apex, " ", e6),
		text(less, " ", e7), text(joined, " ", e8),
	}
}

// ofNumber returns the results of the functions of no graph as texts.
func ofNumber(q question) []string {
	k, e1 := minor.K(q.n)
	w, e2 := minor.W(q.n)
	return []string{text(k, " ", e1), text(minor.K23()), text(w, " ", e2)}
}

func answers(q question) []string { return slices.Concat(ofPattern(q), ofGraph(q), ofNumber(q)) }

// What is said of arguments that are not valid.
var (
	patternRefused = []string{"[] 2", "false 2"}
	graphRefused   = []string{"[] 2", "false 2", "[] 2", "false 2", "0 2", "0 2", "[] 2", "[] 2"}
)

// good is a question of which every argument is valid.
func good() question {
	return question{
		g: cycle(4), pattern: complete(3), model: []int{1, 2, 12}, steps: []step{{2, 0, 1, 3}, {2, 1, 2, 3}, {1, 2, 3, -1}, {0, 3, -1, -1}},
		order: []int{0, 1, 2, 3}, a: 0, b: 1, n: 4,
	}
}

func TestGood(t *testing.T) {
	want := []string{
		"[1 2 12] 0", "true 0", "[{2 0 1 3} {2 1 2 3} {1 2 3 -1} {0 3 -1 -1}] 0", "true 0", "[0 1 2 3] 0", "true 0", "3 0", "0 0", "[2 5 2] 0", "[6 5 3] 0",
		"[14 13 11 7] 0", "[28 28 3 3 3]", "[26 21 26 21 15] 0",
	}
	sameText(t, "good", answers(good()), want)
}

// TestNotValid: ErrArg comes first, whatever else is wrong, and every other result is zero.
func TestNotValid(t *testing.T) {
	for name, g := range badGraphs() {
		for _, q := range []question{good(), {}, {pattern: apart(1)}, {pattern: g, model: []int{-1}, steps: []step{{-1, -1, -1, -1}}, order: []int{-1}, a: -1, b: -1}} {
			q.g = g
			sameText(t, name, ofPattern(q), patternRefused)
			sameText(t, name, ofGraph(q), graphRefused)
		}
	}
	for name, pattern := range badPatterns() {
		for _, g := range []api.Graph{apart(1), path(2), cycle(4), complete(8)} {
			sameText(t, name, ofPattern(question{g: g, pattern: pattern}), patternRefused)
			sameText(t, name, ofPattern(question{g: g, pattern: pattern, model: []int{-1}}), patternRefused)
		}
	}
}

// TestNone: ErrNone comes with zero values, and only where there is none.
func TestNone(t *testing.T) {
	q := question{g: complete(5), pattern: complete(6), a: 1, b: 3}
	sameText(t, "pattern", ofPattern(q), []string{"[] 4", "false 0"})
	sameText(t, "graph", ofGraph(q), []string{"[] 4", "false 0", "[] 4", "false 0", "5 0", "0 4", "[14 13 11 7] 0", "[14 13 11 7] 0"})
}

// TestValid: what is at the edge of what is valid is taken.
func TestValid(t *testing.T) {
	for n := 1; n <= api.MaxMinor; n++ {
		for _, g := range []api.Graph{apart(n), path(n), star(n), complete(n)} {
			for k := 1; k <= 6; k++ {
				for _, pattern := range []api.Graph{apart(k), path(k), complete(k)} {
					lines := ofPattern(question{g: g, pattern: pattern})
					same(t, text(g, pattern), strings.HasSuffix(lines[0], " 2"), false)
					same(t, text(g, pattern), lines[1], "false 0")
				}
			}
			for i, line := range ofGraph(question{g: g})[:6] {
				same(t, text(g, i), strings.HasSuffix(line, " 2"), false)
			}
		}
	}
}

// TestNilIsEmpty: a nil slice and an empty one are the same.
func TestNilIsEmpty(t *testing.T) {
	for _, g := range []api.Graph{nil, apart(1), cycle(5)} {
		none := question{g: g, b: 1}
		empty := question{g: g, pattern: api.Graph{}, model: []int{}, steps: []step{}, order: []int{}, b: 1}
		sameText(t, "nil", answers(none), answers(empty))
	}
	sameText(t, "no graph", answers(question{}), answers(question{g: api.Graph{}}))
}

// manyQuestions returns questions of which the most arguments are valid.
func manyQuestions() []question {
	d := dice(29)
	list := []question{good(), {}, {a: -1, b: -1, n: -1}}
	for i, g := range largeGraphs() {
		q := question{g: g, pattern: some(patterns(), 1, &d)[0], order: shuffled(len(g), &d), a: i % 3, b: i % len(g), n: i % 9}
		q.model, _ = minor.Model(q.g, q.pattern)
		q.steps = someSteps(g, &d)
		list = append(list, q)
	}
	return list
}

// TestAgain: the same calls give the same results, and change no argument.
func TestAgain(t *testing.T) {
	for _, q := range manyQuestions() {
		kept := q.clone()
		first := answers(q)
		for range 2 {
			sameText(t, "again", answers(q), first)
		}
		sameText(t, "arguments", q, kept)
	}
}

// spoil changes all elements of a slice, and what lies behind its end.
func spoil[T any](l []T, value T) {
	for i := range l[:cap(l)] {
		l[:cap(l)][i] = value
	}
}

// TestResultsAreNew: changing a result, or what lies behind its end, changes neither an
// argument nor a later result.
func TestResultsAreNew(t *testing.T) {
	for _, q := range manyQuestions() {
		kept := q.clone()
		first := answers(q)
		model, _ := minor.Model(q.g, q.pattern)
		spoil(model, -7)
		order, _ := minor.Outer(q.g)
		spoil(order, -7)
		steps, _ := minor.Reduce(q.g)
		spoil(steps, step{-7, -7, -7, -7})
		less, _ := minor.Delete(q.g, q.a)
		joined, _ := minor.Contract(q.g, q.a, q.b)
		k, _ := minor.K(q.n)
		w, _ := minor.W(q.n)
		for _, g := range []api.Graph{less, joined, k, w, minor.K23()} {
			spoil(g, -7)
		}
		sameText(t, "arguments", q, kept)
		sameText(t, "results", answers(q), first)
	}
}

// TestRoomBehindArguments: what lies behind the end of an argument is not written.
func TestRoomBehindArguments(t *testing.T) {
	q := good()
	g := append(slices.Clone(q.g), 99, 99, 99)
	pattern := append(slices.Clone(q.pattern), 99, 99)
	model := append(slices.Clone(q.model), 99, 99)
	order := append(slices.Clone(q.order), 99, 99)
	steps := append(slices.Clone(q.steps), step{9, 9, 9, 9})
	q.g, q.pattern, q.model, q.order, q.steps = g[:4], pattern[:3], model[:3], order[:4], steps[:4]
	sameText(t, "results", answers(q), answers(good()))
	sameText(t, "behind", []any{g[4:], pattern[3:], model[3:], order[4:], steps[4:]}, "[[99 99 99] [99 99] [99 99] [99 99] [{9 9 9 9}]]")
}
