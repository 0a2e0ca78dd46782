package sweep_test

import (
	"fmt"
	"slices"
	"testing"

	"lampblack/api"
)

// edges is a graph of n nodes with these edges.
func edges(n int, pairs ...[2]int) api.Graph {
	g := make(api.Graph, n)
	for _, p := range pairs {
		g[p[0]] |= 1 << p[1]
		g[p[1]] |= 1 << p[0]
	}
	return g
}

func apart(n int) api.Graph { return make(api.Graph, n) }

func path(n int) api.Graph {
	g := apart(n)
	for v := 1; v < n; v++ {
		g[v] |= 1 << (v - 1)
		g[v-1] |= 1 << v
	}
	return g
}

func cycle(n int) api.Graph {
	g := path(n)
	g[0] |= 1 << (n - 1)
	g[n-1] |= 1
	return g
}

func complete(n int) api.Graph {
	g := apart(n)
	for v := range g {
		g[v] = (1<<n - 1) &^ (1 << v)
	}
	return g
}

// star has node 0 in the middle.
func star(n int) api.Graph {
	g := apart(n)
	for v := 1; v < n; v++ {
		g[0] |= 1 << v
		g[v] = 1
	}
	return g
}

// wheel is a cycle of the nodes 1 to n - 1 around node 0.
func wheel(n int) api.Graph {
	g := star(n)
	for v := 1; v < n; v++ {
		u := v%(n-1) + 1
		g[v] |= 1 << u
		g[u] |= 1 << v
	}
	return g
}

// spider has three ways of two from node 0.
func spider() api.Graph {
	return edges(7, [2]int{0, 1}, [2]int{0, 2}, [2]int{0, 3}, [2]int{1, 4}, [2]int{2, 5}, [2]int{3, 6})
}

// sides has all edges between the first a nodes and the b others.
func sides(a, b int) api.Graph {
	g := apart(a + b)
	for v := range g {
		g[v] = 1<<a - 1
		if v < a {
			g[v] = (1<<b - 1) << a
		}
	}
	return g
}

// beside has two graphs beside each other.
func beside(g, h api.Graph) api.Graph {
	both := slices.Clone(g)
	for _, set := range h {
		both = append(both, set<<len(g))
	}
	return both
}

// without is the graph that is left without a node; the nodes behind it move up.
func without(g api.Graph, v int) api.Graph {
	var left api.Graph
	for u, set := range g {
		if u != v {
			left = append(left, set&(1<<v-1)|set>>(v+1)<<v)
		}
	}
	return left
}

// allGraphs returns all graphs of n nodes.
func allGraphs(n int) []api.Graph {
	var pairs [][2]int
	for b := range n {
		for a := range b {
			pairs = append(pairs, [2]int{a, b})
		}
	}
	var list []api.Graph
	for set := range 1 << len(pairs) {
		var chosen [][2]int
		for i, p := range pairs {
			if set>>i&1 == 1 {
				chosen = append(chosen, p)
			}
		}
		list = append(list, edges(n, chosen...))
	}
	return list
}

// dice are numbers that look like chance and are always the same.
type dice uint64

func (d *dice) below(n int) int {
	*d = *d*6364136223846793005 + 1442695040888963407
	return int(uint64(*d) >> 33 % uint64(n))
}

// someGraphs returns count graphs of n nodes with few and many edges.
func someGraphs(n, count int) []api.Graph {
	d := dice(n)
	var list []api.Graph
	for range count {
		g, many := apart(n), d.below(11)
		for a := range g {
			for b := range a {
				if d.below(10) < many {
					g[a] |= 1 << b
					g[b] |= 1 << a
				}
			}
		}
		list = append(list, g)
	}
	return list
}

// smallGraphs returns all graphs of at most 5 nodes.
func smallGraphs() []api.Graph {
	var list []api.Graph
	for n := 1; n <= 5; n++ {
		list = append(list, allGraphs(n)...)
	}
	return list
}

// largeGraphs returns some graphs of 6 and 7 nodes, among them well-known ones.
func largeGraphs() []api.Graph {
	list := []api.Graph{
		spider(), sides(3, 3), sides(3, 4), sides(2, 5), beside(complete(3), complete(4)), beside(cycle(4), path(3)),
		beside(apart(3), cycle(4)), beside(complete(3), complete(3)), beside(apart(2), complete(5)),
	}
	for n := 6; n <= 7; n++ {
		list = append(list, apart(n), path(n), cycle(n), complete(n), star(n), wheel(n))
		list = append(list, someGraphs(n, 60)...)
	}
	return list
}

func manyGraphs() []api.Graph { return append(smallGraphs(), largeGraphs()...) }

// badGraphs returns what is no valid graph.
func badGraphs() map[string]api.Graph {
	return map[string]api.Graph{
		"nil":                nil,
		"empty":              {},
		"eight nodes":        apart(8),
		"path of eight":      path(8),
		"very many nodes":    make(api.Graph, 100000),
		"own neighbour":      {1},
		"own neighbour of 2": {3, 1},
		"one-sided":          {2, 0},
		"one-sided of three": {2, 5, 0},
		"no such neighbour":  {2},
		"beyond the nodes":   {6, 1},
		"negative":           {-1, 1},
		"negative alone":     {-1},
		"most negative":      {-1 << 63, 1},
		"sign bit":           {2, 1 | -1<<63},
		"greatest":           {1<<63 - 1, 1},
	}
}

func near(g api.Graph, a, b int) bool { return g[a]>>b&1 == 1 }

func nodesOf(set int) []int {
	var list []int
	for v := range 63 {
		if set>>v&1 == 1 {
			list = append(list, v)
		}
	}
	return list
}

func setOf(nodes ...int) int {
	set := 0
	for _, v := range nodes {
		set |= 1 << v
	}
	return set
}

// borderOf goes by the definition: the nodes of a list with a neighbour that is not in
// it.
func borderOf(g api.Graph, list []int) []int {
	var border []int
	for _, v := range list {
		for u := range g {
			if near(g, v, u) && !slices.Contains(list, u) && !slices.Contains(border, v) {
				border = append(border, v)
			}
		}
	}
	return border
}

// orders returns all orders of n nodes, rising.
func orders(n int) [][]int {
	list := [][]int{{}}
	for range n {
		var longer [][]int
		for _, o := range list {
			for v := range n {
				if !slices.Contains(o, v) {
					longer = append(longer, append(slices.Clone(o), v))
				}
			}
		}
		list = longer
	}
	return list
}

func shuffled(n int, d *dice) []int {
	var l []int
	for v := range n {
		l = slices.Insert(l, d.below(v+1), v)
	}
	return l
}

// badLayouts returns what is no layout of three nodes.
func badLayouts() [][]int {
	return [][]int{
		nil, {}, {0}, {0, 1}, {0, 1, 2, 2}, {0, 1, 2, 3}, {0, 0, 1}, {0, 1, 1}, {0, 1, 3}, {0, 1, -1}, {-1, 0, 1}, {3, 0, 1},
		{0, 1, 64}, {0, 1, 66}, {0, 1, -62}, {0, 1, 1 << 62}, {0, 1, -1 << 63}, make([]int, 100000),
	}
}

func same[T comparable](t *testing.T, what string, got, want T) {
	t.Helper()
	if got != want {
		t.Errorf("%s: got %v, want %v", what, got, want)
	}
}

// sameText compares values by their text, for which nil and empty are the same.
func sameText(t *testing.T, what string, got, want any) {
	t.Helper()
	if g, w := fmt.Sprint(got), fmt.Sprint(want); g != w {
		t.Errorf("%s: got %s, want %s", what, g, w)
	}
}
