package like_test

import (
	"cmp"
	"slices"
	"testing"

	"lampblack/api"
	"lampblack/like"
)

// mark is what a node gets in a round.
type mark struct {
	colour int
	around []int
}

func compareMarks(a, b mark) int {
	return cmp.Or(cmp.Compare(a.colour, b.colour), slices.Compare(a.around, b.around))
}

// refined goes by the definition, for any number of graphs together: the colours of the
// nodes of each of them, and the number of rounds that raised the number of colours.
func refined(graphs ...api.Graph) ([][]int, int) {
	colours := make([][]int, len(graphs))
	for i, g := range graphs {
		colours[i] = make([]int, len(g))
	}
	for rounds, last := 0, 1; ; rounds++ {
		var different []mark
		marks := make([][]mark, len(graphs))
		for i, g := range graphs {
			for v := range g {
				m := mark{colour: colours[i][v]}
				for u := range g {
					if near(g, v, u) {
						m.around = append(m.around, colours[i][u])
					}
				}
				slices.Sort(m.around)
				marks[i] = append(marks[i], m)
				if !slices.ContainsFunc(different, func(d mark) bool { return compareMarks(d, m) == 0 }) {
					different = append(different, m)
				}
			}
		}
		if len(different) == last {
			return colours, rounds
		}
		last = len(different)
		slices.SortFunc(different, compareMarks)
		next := make([][]int, len(graphs))
		for i := range graphs {
			for _, m := range marks[i] {
				next[i] = append(next[i], slices.IndexFunc(different, func(d mark) bool { return compareMarks(d, m) == 0 }))
			}
		}
		colours = next
	}
}

// areAlike goes by the definition.
func areAlike(g, h api.Graph) bool {
	colours, _ := refined(g, h)
	surplus := map[int]int{}
	for _, c := range colours[0] {
		surplus[c]++
	}
	for _, c := range colours[1] {
		surplus[c]--
	}
	for _, n := range surplus {
		if n != 0 {
			return false
		}
	}
	return true
}

func TestRefineExamples(t *testing.T) {
	table := []struct {
		g       api.Graph
		colours []int
		rounds  int
	}{
		{apart(1), []int{0}, 0}, {apart(6), make([]int, 6), 0}, {complete(6), make([]int, 6), 0}, {cycle(6), make([]int, 6), 0}, {prism(), make([]int, 6), 0},
		{path(2), []int{0, 0}, 0}, {path(3), []int{0, 1, 0}, 1}, {path(4), []int{0, 1, 1, 0}, 1}, {path(5), []int{0, 1, 2, 1, 0}, 2}, {path(6), []int{0, 1, 2, 2, 1, 0}, 2},
		{star(5), []int{1, 0, 0, 0, 0}, 1}, {beside(path(2), apart(1)), []int{1, 1, 0}, 1}, {sides(2, 3), []int{1, 1, 0, 0, 0}, 1},
		{beside(path(3), path(3)), []int{0, 1, 0, 0, 1, 0}, 1}, {beside(path(2), path(3)), []int{0, 0, 1, 2, 1}, 2}, {beside(path(2), path(4)), []int{0, 0, 1, 2, 2, 1}, 2},
		{edges(6, [2]int{0, 1}, [2]int{1, 2}, [2]int{2, 3}, [2]int{3, 4}, [2]int{2, 5}), []int{0, 2, 3, 2, 0, 1}, 2},
		{edges(5, [2]int{0, 1}, [2]int{1, 2}, [2]int{2, 3}, [2]int{3, 1}, [2]int{3, 4}), []int{0, 2, 1, 2, 0}, 1},
		{edges(6, [2]int{0, 1}, [2]int{1, 2}, [2]int{2, 3}, [2]int{3, 4}, [2]int{3, 5}), []int{0, 2, 3, 4, 1, 1}, 2},
	}
	for _, row := range table {
		colours, rounds, e := like.Refine(row.g)
		sameText(t, text(row.g), []any{colours, rounds, e}, []any{row.colours, row.rounds, api.OK})
	}
}

func TestRefineMany(t *testing.T) {
	for _, g := range append(smallGraphs(5), largeGraphs()...) {
		want, rounds := refined(g)
		colours, n, e := like.Refine(g)
		if !slices.Equal(colours, want[0]) || n != rounds || e != api.OK {
			t.Fatal(g, colours, n, e)
		}
	}
}

func TestAlikeExamples(t *testing.T) {
	table := []struct {
		g, h api.Graph
		want bool
	}{
		{cycle(6), beside(cycle(3), cycle(3)), true}, {prism(), sides(3, 3), true}, {apart(1), apart(1), true}, {path(3), path(3), true},
		{path(3), edges(3, [2]int{0, 1}, [2]int{0, 2}), true}, {path(3), cycle(3), false}, {apart(1), apart(2), false}, {cycle(3), cycle(4), false}, {cycle(3), cycle(6), false},
		{apart(2), path(2), false}, {star(4), path(4), false}, {beside(cycle(3), apart(1)), star(4), false}, {complete(6), complete(5), false},
		{beside(path(2), path(4)), beside(path(3), path(3)), false}, {knownGraphs()[11], knownGraphs()[12], true}, {beside(cycle(3), path(3)), beside(path(3), cycle(3)), true},
	}
	for _, row := range table {
		for _, p := range [][2]api.Graph{{row.g, row.h}, {row.h, row.g}} {
			got, e := like.Alike(p[0], p[1])
			same(t, text(p), got, row.want)
			same(t, text(p), e, api.OK)
		}
	}
}

func TestAlikeMany(t *testing.T) {
	yes := 0
	for _, p := range manyPairs() {
		got, e := like.Alike(p[0], p[1])
		if want := areAlike(p[0], p[1]); got != want || e != api.OK {
			t.Fatal(p, got, e)
		}
		if got {
			yes++
		}
	}
	same(t, "enough are alike", yes > 500, true)
}

// TestTrees is P9.11.
func TestTrees(t *testing.T) {
	d := dice(7)
	for _, p := range manyPairs() {
		if alike, _ := like.Alike(p[0], p[1]); !alike {
			continue
		}
		for _, tree := range append(trees(4), some(trees(6), 4, &d)...) {
			m, e1 := like.Maps(tree, p[0])
			n, e2 := like.Maps(tree, p[1])
			if m != n || e1 != api.OK || e2 != api.OK {
				t.Fatal(tree, p, m, n, e1, e2)
			}
		}
	}
}

// TestRefineNames is P9.16.
func TestRefineNames(t *testing.T) {
	d := dice(11)
	for _, g := range manyGraphs() {
		colours, rounds, _ := like.Refine(g)
		names := shuffled(len(g), &d)
		others, n, _ := like.Refine(renamed(g, names))
		for v, c := range colours {
			if others[names[v]] != c || n != rounds {
				t.Fatal(g, names, colours, others)
			}
		}
		for _, turn := range orders(len(g)) {
			if !isRenaming(g, g, turn) {
				continue
			}
			for v, u := range turn {
				if colours[v] != colours[u] {
					t.Fatal(g, turn, colours)
				}
			}
		}
	}
}
