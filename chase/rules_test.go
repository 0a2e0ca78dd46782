package chase_test

import (
	"fmt"
	"slices"
	"testing"

	"lampblack/api"
	"lampblack/chase"
)

// answers returns the results of all functions as texts.
func answers(g api.Graph, set int, order []int, k int, p chase.Place, l []chase.Place) []string {
	text := func(values ...any) string { return fmt.Sprint(values...) }
	corners, e1 := chase.Corners(g, set)
	apart, e2 := chase.Apart(g)
	checked, e3 := chase.CheckApart(g, order)
	core, e4 := chase.Core(g)
	rank, e5 := chase.Rank(g, k, p)
	rounds, e6 := chase.Rounds(g, k)
	start, e7 := chase.Start(g, k)
	move, e8 := chase.Move(g, k, p)
	safe, e9 := chase.Safe(g, k)
	accepted, e10 := chase.CheckSafe(g, k, l)
	return []string{
		text(corners, " ", e1), text(apart, " ", e2), text(checked, " ", e3), text(core, " ", e4), text(rank, " ", e5),
		text(rounds, " ", e6), text(start, " ", e7), text(move, " ", e8), text(safe, " ", e9), text(accepted, " ", e10),
	}
}

// refused are the results of all functions with ErrArg: every other result is zero.
func refused() []string {
	return []string{"[] 2", "[] 2", "false 2", "0 2", "0 2", "0 2", "[0 0] 2", "[0 0] 2", "[] 2", "false 2"}
}

func TestGraphsNotValid(t *testing.T) {
	for name, g := range badGraphs() {
		for k := 1; k <= 2; k++ {
			sameList(t, name, answers(g, 0, []int{0}, k, chase.Place{}, []chase.Place{{}}), refused())
		}
		// ErrArg comes first, whatever else is wrong.
		sameList(t, name, answers(g, -1, nil, 3, chase.Place{A: -1, B: 5, Cat: 9}, nil), refused())
	}
}

func TestGraphsValid(t *testing.T) {
	for n := 1; n <= api.MaxChase; n++ {
		for _, g := range []api.Graph{path(n), complete(n), star(n)} {
			for _, line := range answers(g, 0, nil, 1, chase.Place{}, nil) {
				if line[len(line)-2:] == " 2" {
					t.Error(g, line)
				}
			}
		}
	}
}

func TestSweepsNotValid(t *testing.T) {
	for _, k := range []int{0, 3, -1, 1 << 62, -1 << 63, 1<<63 - 1} {
		for _, g := range []api.Graph{path(1), path(3), cycle(4)} {
			got := answers(g, 0, nil, k, chase.Place{A: 0, B: 0, Cat: 0}, nil)
			sameList(t, fmt.Sprint(k), got[4:], refused()[4:])
		}
	}
}

func TestPlacesNotValid(t *testing.T) {
	table := []struct {
		k int
		p chase.Place
	}{
		{1, chase.Place{A: 0, B: 1, Cat: 2}}, {1, chase.Place{A: 1, B: 0, Cat: 2}}, {2, chase.Place{A: 1, B: 0, Cat: 2}},
		{2, chase.Place{A: 2, B: 1, Cat: 2}}, {1, chase.Place{A: 3, B: 3, Cat: 0}}, {2, chase.Place{A: 0, B: 3, Cat: 0}},
		{1, chase.Place{A: -1, B: -1, Cat: 0}}, {2, chase.Place{A: -1, B: 0, Cat: 0}}, {1, chase.Place{A: 0, B: 0, Cat: 3}},
		{2, chase.Place{A: 0, B: 0, Cat: -1}}, {2, chase.Place{A: 0, B: 0, Cat: 64}}, {2, chase.Place{A: 0, B: 1<<63 - 1, Cat: 0}},
		{1, chase.Place{A: -1 << 63, B: -1 << 63, Cat: -1 << 63}},
	}
	for _, row := range table {
		what := fmt.Sprint(row)
		r, e := chase.Rank(path(3), row.k, row.p)
		same(t, what, r, 0)
		same(t, what, e, api.ErrArg)
		to, e := chase.Move(path(3), row.k, row.p)
		same(t, what, to, [2]int{})
		same(t, what, e, api.ErrArg)
	}
}

// TestErrorsLeaveZero: with ErrState and ErrNone every other result is zero too.
func TestErrorsLeaveZero(t *testing.T) {
	got := answers(cycle(4), 15, nil, 1, chase.Place{A: 1, B: 1, Cat: 3}, nil)
	want := []string{"[] 0", "[] 5", "false 0", "15 0", "-1 0", "0 4", "[0 0] 4", "[0 0] 4"}
	sameList(t, "cycle of four", got[:8], want)
	got = answers(path(3), 7, nil, 1, chase.Place{A: 1, B: 1, Cat: 1}, nil)
	want = []string{"[[0 1] [2 1]] 0", "[0 1 2] 0", "false 0", "4 0", "0 0", "1 0", "[1 1] 0", "[0 0] 4", "[] 4", "false 0"}
	sameList(t, "path", got, want)
}

// TestAgain: the same calls give the same results, and change no argument.
func TestAgain(t *testing.T) {
	order := []int{5, 4, 3, 2, 1, 0}
	list := []chase.Place{{A: 0, B: 0, Cat: 3}, {A: 1, B: 1, Cat: 4}, {A: 0, B: 0, Cat: 3}}
	for _, g := range []api.Graph{path(6), cycle(6), wheel(6)} {
		g2, order2, list2 := slices.Clone(g), slices.Clone(order), slices.Clone(list)
		first := answers(g, 63, order, 1, list[0], list)
		for range 5 {
			sameList(t, "again", answers(g, 63, order, 1, list[0], list), first)
		}
		sameList(t, "graph", g, g2)
		sameList(t, "order", order, order2)
		sameList(t, "places", list, list2)
	}
}

// TestResultsAreNew: changing a result changes neither an argument nor a later result.
func TestResultsAreNew(t *testing.T) {
	for _, g := range []api.Graph{path(6), cycle(6)} {
		kept := slices.Clone(g)
		first := answers(g, 63, nil, 1, chase.Place{}, nil)
		corners, _ := chase.Corners(g, 63)
		clear(corners)
		apart, _ := chase.Apart(g)
		clear(apart)
		safe, _ := chase.Safe(g, 1)
		clear(safe)
		sameList(t, "graph", g, kept)
		sameList(t, "results", answers(g, 63, nil, 1, chase.Place{}, nil), first)
	}
}
