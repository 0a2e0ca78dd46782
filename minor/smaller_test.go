package minor_test

import (
	"slices"
	"testing"

	"lampblack/api"
	"lampblack/minor"
	"lampblack/width"
)

// without goes by the definition: the nodes that are left, and who of them are neighbours.
func without(g api.Graph, v int) api.Graph {
	left := slices.DeleteFunc(nodesOf(1<<len(g)-1), func(u int) bool { return u == v })
	h := apart(len(left))
	for i, a := range left {
		for j, b := range left {
			if near(g, a, b) {
				h[i] |= 1 << j
			}
		}
	}
	return h
}

// together goes by the definition: the neighbours of b are neighbours of a, too.
func together(g api.Graph, a, b int) api.Graph {
	h := slices.Clone(g)
	for u := range g {
		if u != a && near(g, b, u) {
			h[a] |= 1 << u
			h[u] |= 1 << a
		}
	}
	return without(h, b)
}

func TestDeleteExamples(t *testing.T) {
	table := []struct {
		g    api.Graph
		v    int
		want api.Graph
	}{
		{apart(2), 0, apart(1)}, {apart(2), 1, apart(1)}, {path(2), 0, apart(1)}, {path(3), 0, path(2)}, {path(3), 1, apart(2)}, {path(3), 2, path(2)},
		{cycle(5), 2, edges(4, [2]int{0, 1}, [2]int{0, 3}, [2]int{2, 3})}, {complete(8), 3, complete(7)}, {star(8), 0, apart(7)}, {star(8), 7, star(7)},
	}
	for _, row := range table {
		h, e := minor.Delete(row.g, row.v)
		sameText(t, text(row.g, row.v), h, row.want)
		same(t, text(row.g, row.v), e, api.OK)
	}
}

func TestContractExamples(t *testing.T) {
	table := []struct {
		g    api.Graph
		a, b int
		want api.Graph
	}{
		{path(2), 0, 1, apart(1)}, {path(3), 0, 1, path(2)}, {path(3), 1, 2, path(2)}, {cycle(3), 0, 2, path(2)}, {cycle(5), 0, 4, cycle(4)}, {cycle(5), 2, 3, cycle(4)},
		{complete(8), 2, 6, complete(7)}, {star(8), 0, 3, star(7)}, {wheel(5), 1, 2, wheel(4)},
		{edges(4, [2]int{0, 3}, [2]int{1, 3}, [2]int{2, 3}), 1, 3, edges(3, [2]int{0, 1}, [2]int{1, 2})},
	}
	for _, row := range table {
		h, e := minor.Contract(row.g, row.a, row.b)
		sameText(t, text(row), h, row.want)
		same(t, text(row), e, api.OK)
	}
}

// beyond are numbers that are no nodes of any graph, or of n nodes.
func beyond(n int) []int { return []int{-1, n, n + 1, 63, 64, -64, 1 << 62, -1 << 63, 1<<63 - 1} }

// TestSmallerMany is P7.6, for all nodes and pairs of nodes; what is smaller is no farther
// from a tree.
func TestSmallerMany(t *testing.T) {
	for _, g := range manyGraphs() {
		for a := range g {
			want, e1 := without(g, a), api.OK
			if len(g) == 1 {
				want, e1 = nil, api.ErrArg
			}
			if h, e := minor.Delete(g, a); !slices.Equal(h, want) || e != e1 {
				t.Fatal(g, a, h, e)
			}
			for b := range g {
				want, e1 := api.Graph(nil), api.ErrArg
				if a < b && near(g, a, b) {
					want, e1 = together(g, a, b), api.OK
				}
				h, e := minor.Contract(g, a, b)
				if !slices.Equal(h, want) || e != e1 {
					t.Fatal(g, a, b, h, e)
				}
				w, _ := width.Width(g)
				if less, _ := width.Width(h); less > w {
					t.Fatal(g, h, w, less)
				}
			}
		}
	}
}

func TestSmallerNotValid(t *testing.T) {
	for _, g := range []api.Graph{apart(1), path(2), complete(3), cycle(8), complete(8)} {
		for _, v := range beyond(len(g)) {
			h, e := minor.Delete(g, v)
			sameText(t, text(g, v), h, api.Graph{})
			same(t, text(g, v), e, api.ErrArg)
			for _, u := range append(beyond(len(g)), 0, len(g)-1) {
				for _, pair := range [][2]int{{u, v}, {v, u}} {
					h, e := minor.Contract(g, pair[0], pair[1])
					sameText(t, text(g, pair), h, api.Graph{})
					same(t, text(g, pair), e, api.ErrArg)
				}
			}
		}
	}
}
