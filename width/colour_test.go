package width_test

import (
	"fmt"
	"testing"

	"lampblack/api"
	"lampblack/width"
)

// tried counts colourings by trying each colour at each node from v on.
func tried(g api.Graph, given []int, v, colours int) int {
	if v == len(g) {
		return 1
	}
	ways := 0
	for c := range colours {
		free := true
		for u := range v {
			free = free && !(near(g, u, v) && given[u] == c)
		}
		if free {
			given[v] = c
			ways += tried(g, given, v+1, colours)
		}
	}
	return ways
}

func TestCountExamples(t *testing.T) {
	table := []struct {
		g       api.Graph
		colours int
		want    int
	}{
		{apart(1), 0, 0}, {apart(1), 1, 1}, {apart(1), 6, 6}, {apart(9), 0, 0}, {apart(9), 1, 1}, {apart(9), 2, 512}, {apart(9), 6, 10077696},
		{path(3), 1, 0}, {path(3), 2, 2}, {path(3), 3, 12}, {path(9), 6, 2343750}, {cycle(4), 2, 2}, {cycle(4), 3, 18}, {cycle(5), 2, 0}, {cycle(5), 3, 30},
		{complete(3), 2, 0}, {complete(6), 5, 0}, {complete(6), 6, 720}, {complete(7), 6, 0}, {complete(9), 6, 0}, {star(5), 2, 2}, {star(5), 6, 3750},
		{grid(3), 3, 246}, {beside(complete(3), complete(3)), 3, 36},
	}
	for _, row := range table {
		best, _ := width.Decompose(row.g)
		whole := tree{Bags: []int{1<<len(row.g) - 1}, Parent: []int{-1}}
		for _, x := range []tree{best, whole} {
			n, e := width.Count(row.g, x, row.colours)
			same(t, fmt.Sprint(row, x), n, row.want)
			same(t, fmt.Sprint(row, x), e, api.OK)
		}
	}
}

// TestCountAll is P2.8 and P2.14: it compares with trying everything, for several trees.
func TestCountAll(t *testing.T) {
	d := dice(31)
	for _, g := range manyGraphs() {
		w, _ := width.Width(g)
		for colours := range 7 {
			if len(g) > 6 && colours > 4 {
				continue // too many to try
			}
			want := tried(g, make([]int, len(g)), 0, colours)
			best, _ := width.Decompose(g)
			for _, x := range []tree{best, someTree(g, &d), someTree(g, &d)} {
				if n, e := width.Count(g, x, colours); n != want || e != api.OK || colours > w && n <= 0 {
					t.Fatal(g, x, colours, n, e, want)
				}
			}
		}
	}
}

// TestCountTrees is P2.14 for large graphs with all numbers of colours.
func TestCountTrees(t *testing.T) {
	d := dice(32)
	for _, g := range largeGraphs() {
		w, _ := width.Width(g)
		best, _ := width.Decompose(g)
		for colours := range 7 {
			want, _ := width.Count(g, best, colours)
			for range 3 {
				x := someTree(g, &d)
				if n, e := width.Count(g, x, colours); n != want || e != api.OK || colours > w && n <= 0 {
					t.Fatal(g, x, colours, n, e, want)
				}
			}
		}
	}
}

func TestCountLongTree(t *testing.T) {
	n, e := width.Count(apart(9), longTree(30, 511), 6)
	same(t, "30 full bags", n, 10077696)
	same(t, "30 full bags", e, api.OK)
}

func TestCountErrors(t *testing.T) {
	good := tree{Bags: []int{3, 6}, Parent: []int{-1, 0}}
	for _, colours := range []int{-1, 7, 8, 255, 256, 257, 1 << 62, -1 << 63, 1<<63 - 1} {
		n, e := width.Count(path(3), good, colours)
		same(t, fmt.Sprint(colours), n, 0)
		same(t, fmt.Sprint(colours), e, api.ErrArg)
	}
	for name, x := range badTrees() {
		n, e := width.Count(path(3), x, 3)
		same(t, name, n, 0)
		same(t, name, e, api.ErrArg)
	}
}
