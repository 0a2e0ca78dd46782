package width_test

import (
	"fmt"
	"slices"
	"testing"

	"lampblack/api"
	"lampblack/width"
)

// edges is a graph of n nodes with these edges.
func edges(n int, pairs ...[2]int) api.Graph {
	g := make(api.Graph, n)
	for _, p := range pairs {
		g[p[0]] |= 1 << p[1]
		g[p[1]] |= 1 << p[0]
	}
	return g
}

func apart(n int) api.Graph { return make(api.Graph, n) }

func path(n int) api.Graph {
	g := apart(n)
	for v := 1; v < n; v++ {
		g[v] |= 1 << (v - 1)
		g[v-1] |= 1 << v
	}
	return g
}

func cycle(n int) api.Graph {
	g := path(n)
	g[0] |= 1 << (n - 1)
	g[n-1] |= 1
	return g
}

func complete(n int) api.Graph {
	g := apart(n)
	for v := range g {
		g[v] = (1<<n - 1) &^ (1 << v)
	}
	return g
}

// star has node 0 in the middle.
func star(n int) api.Graph {
	g := apart(n)
	for v := 1; v < n; v++ {
		g[0] |= 1 << v
		g[v] = 1
	}
	return g
}

// wheel is a cycle of the nodes 1 to n - 1 around node 0.
func wheel(n int) api.Graph {
	g := star(n)
	for v := 1; v < n; v++ {
		u := v%(n-1) + 1
		g[v] |= 1 << u
		g[u] |= 1 << v
	}
	return g
}

// grid has rows of three.
func grid(rows int) api.Graph {
	g := apart(3 * rows)
	for a := range g {
		for b := range a {
			if a-b == 3 || a-b == 1 && a%3 != 0 {
				g[a] |= 1 << b
				g[b] |= 1 << a
			}
		}
	}
	return g
}

// sides has all edges between the first a nodes and the b others.
func sides(a, b int) api.Graph {
	g := apart(a + b)
	for v := range g {
		g[v] = 1<<a - 1
		if v < a {
			g[v] = (1<<b - 1) << a
		}
	}
	return g
}

// beside has two graphs beside each other.
func beside(g, h api.Graph) api.Graph {
	both := slices.Clone(g)
	for _, set := range h {
		both = append(both, set<<len(g))
	}
	return both
}

// allGraphs returns all graphs of n nodes.
func allGraphs(n int) []api.Graph {
	var pairs [][2]int
	for b := range n {
		for a := range b {
			pairs = append(pairs, [2]int{a, b})
		}
	}
	var list []api.Graph
	for set := range 1 << len(pairs) {
		var chosen [][2]int
		for i, p := range pairs {
			if set>>i&1 == 1 {
				chosen = append(chosen, p)
			}
		}
		list = append(list, edges(n, chosen...))
	}
	return list
}

// dice are numbers that look like chance and are always the same.
type dice uint64

func (d *dice) below(n int) int {
	*d = *d*6364136223846793005 + 1442695040888963407
	return int(uint64(*d) >> 33 % uint64(n))
}

// someGraphs returns count graphs of n nodes with few and many edges.
func someGraphs(n, count int) []api.Graph {
	d := dice(n)
	var list []api.Graph
	for range count {
		g, many := apart(n), d.below(11)
		for a := range g {
			for b := range a {
				if d.below(10) < many {
					g[a] |= 1 << b
					g[b] |= 1 << a
				}
			}
		}
		list = append(list, g)
	}
	return list
}

// smallGraphs returns all graphs of at most 5 nodes.
func smallGraphs() []api.Graph {
	var list []api.Graph
	for n := 1; n <= 5; n++ {
		list = append(list, allGraphs(n)...)
	}
	return list
}

// largeGraphs returns some graphs of 6 to 9 nodes, among them well-known ones.
func largeGraphs() []api.Graph {
	list := []api.Graph{
		grid(2), grid(3), sides(3, 3), sides(4, 5), sides(2, 7), beside(complete(4), complete(5)), beside(cycle(4), path(5)),
		beside(apart(3), cycle(6)), beside(complete(3), beside(complete(3), complete(3))),
	}
	for n := 6; n <= 9; n++ {
		list = append(list, apart(n), path(n), cycle(n), complete(n), star(n), wheel(n))
		list = append(list, someGraphs(n, 40)...)
	}
	return list
}

func manyGraphs() []api.Graph { return append(smallGraphs(), largeGraphs()...) }

// badGraphs returns what is no valid graph.
func badGraphs() map[string]api.Graph {
	return map[string]api.Graph{
		"nil":                nil,
		"empty":              {},
		"ten nodes":          apart(10),
		"path of ten":        path(10),
		"very many nodes":    make(api.Graph, 100000),
		"own neighbour":      {1},
		"own neighbour of 2": {3, 1},
		"one-sided":          {2, 0},
		"one-sided of three": {2, 5, 0},
		"no such neighbour":  {2},
		"beyond the nodes":   {6, 1},
		"negative":           {-1, 1},
		"negative alone":     {-1},
		"most negative":      {-1 << 63, 1},
		"sign bit":           {2, 1 | -1<<63},
		"greatest":           {1<<63 - 1, 1},
	}
}

func near(g api.Graph, a, b int) bool { return g[a]>>b&1 == 1 }

func nodesOf(set int) []int {
	var list []int
	for v := range 63 {
		if set>>v&1 == 1 {
			list = append(list, v)
		}
	}
	return list
}

func setOf(nodes ...int) int {
	set := 0
	for _, v := range nodes {
		set |= 1 << v
	}
	return set
}

// joined goes by the definition: from the first node a way leads to each other one.
func joined(g api.Graph, nodes []int) bool {
	if len(nodes) == 0 {
		return false
	}
	seen := []int{nodes[0]}
	for i := 0; i < len(seen); i++ {
		for _, v := range nodes {
			if near(g, seen[i], v) && !slices.Contains(seen, v) {
				seen = append(seen, v)
			}
		}
	}
	return len(seen) == len(nodes)
}

// orders returns all orders of n nodes, rising.
func orders(n int) [][]int {
	list := [][]int{{}}
	for range n {
		var longer [][]int
		for _, o := range list {
			for v := range n {
				if !slices.Contains(o, v) {
					longer = append(longer, append(slices.Clone(o), v))
				}
			}
		}
		list = longer
	}
	return list
}

// eliminated goes by the definition: it makes neighbours of each other.
func eliminated(g api.Graph, order []int) int {
	most := 0
	left := slices.Clone(g)
	for _, v := range order {
		list := nodesOf(left[v])
		most = max(most, len(list))
		for _, a := range list {
			left[a] |= left[v] &^ setOf(a)
		}
		for u := range left {
			left[u] &^= setOf(v)
		}
		left[v] = 0
	}
	return most
}

func cloneTree(t width.Tree) width.Tree {
	return width.Tree{Bags: slices.Clone(t.Bags), Parent: slices.Clone(t.Parent)}
}

func same[T comparable](t *testing.T, what string, got, want T) {
	t.Helper()
	if got != want {
		t.Errorf("%s: got %v, want %v", what, got, want)
	}
}

// sameText compares values by their text, for which nil and empty are the same.
func sameText(t *testing.T, what string, got, want any) {
	t.Helper()
	if g, w := fmt.Sprint(got), fmt.Sprint(want); g != w {
		t.Errorf("%s: got %s, want %s", what, g, w)
	}
}
