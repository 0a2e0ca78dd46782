package chase_test

import (
	"fmt"
	"testing"

	"lampblack/api"
	"lampblack/chase"
)

// edges is a graph of n nodes with these edges.
func edges(n int, pairs ...[2]int) api.Graph {
	g := make(api.Graph, n)
	for _, p := range pairs {
		g[p[0]] |= 1 << p[1]
		g[p[1]] |= 1 << p[0]
	}
	return g
}

func path(n int) api.Graph {
	var pairs [][2]int
	for v := 1; v < n; v++ {
		pairs = append(pairs, [2]int{v - 1, v})
	}
	return edges(n, pairs...)
}

func cycle(n int) api.Graph {
	g := path(n)
	g[0] |= 1 << (n - 1)
	g[n-1] |= 1
	return g
}

func complete(n int) api.Graph {
	g := make(api.Graph, n)
	for v := range g {
		g[v] = (1<<n - 1) &^ (1 << v)
	}
	return g
}

// star has node 0 in the middle.
func star(n int) api.Graph {
	g := make(api.Graph, n)
	for v := 1; v < n; v++ {
		g[0] |= 1 << v
		g[v] = 1
	}
	return g
}

// wheel is a cycle of the nodes 1 to n - 1 around node 0.
func wheel(n int) api.Graph {
	g := star(n)
	for v := 1; v < n; v++ {
		u := v%(n-1) + 1
		g[v] |= 1 << u
		g[u] |= 1 << v
	}
	return g
}

// cube has two nodes as neighbours if their numbers differ in one bit.
func cube() api.Graph {
	g := make(api.Graph, 8)
	for v := range g {
		g[v] = 1<<(v^1) | 1<<(v^2) | 1<<(v^4)
	}
	return g
}

func near(g api.Graph, a, b int) bool { return a == b || g[a]>>b&1 == 1 }

func joined(g api.Graph) bool {
	seen := map[int]bool{0: true}
	for list := []int{0}; len(list) > 0; list = list[1:] {
		for v := range g {
			if near(g, list[0], v) && !seen[v] {
				seen[v] = true
				list = append(list, v)
			}
		}
	}
	return len(seen) == len(g)
}

// allGraphs returns all connected graphs of n nodes.
func allGraphs(n int) []api.Graph {
	var pairs [][2]int
	for b := range n {
		for a := range b {
			pairs = append(pairs, [2]int{a, b})
		}
	}
	var list []api.Graph
	for set := range 1 << len(pairs) {
		var chosen [][2]int
		for i, p := range pairs {
			if set>>i&1 == 1 {
				chosen = append(chosen, p)
			}
		}
		if g := edges(n, chosen...); joined(g) {
			list = append(list, g)
		}
	}
	return list
}

// someGraphs returns count connected graphs of n nodes with few and many edges.
func someGraphs(n, count int) []api.Graph {
	var list []api.Graph
	seed := uint64(n)*7919 + 1
	next := func(below int) int {
		seed = seed*6364136223846793005 + 1442695040888963407
		return int(seed >> 33 % uint64(below))
	}
	for len(list) < count {
		g := make(api.Graph, n)
		for range n - 1 + next(2*n) {
			if a, b := next(n), next(n); a != b {
				g[a] |= 1 << b
				g[b] |= 1 << a
			}
		}
		if joined(g) {
			list = append(list, g)
		}
	}
	return list
}

// smallGraphs returns all connected graphs of at most 5 nodes.
func smallGraphs() []api.Graph {
	var list []api.Graph
	for n := 1; n <= 5; n++ {
		list = append(list, allGraphs(n)...)
	}
	return list
}

// manyGraphs returns small graphs, some with more nodes, and well-known ones.
func manyGraphs() []api.Graph {
	list := smallGraphs()
	for n := 6; n <= 8; n++ {
		list = append(list, someGraphs(n, 40)...)
		list = append(list, path(n), cycle(n), complete(n), star(n), wheel(n))
	}
	return append(list, cube())
}

// without is the graph that is left without a node; the nodes behind it move up.
func without(g api.Graph, v int) api.Graph {
	var left api.Graph
	for u, set := range g {
		if u != v {
			left = append(left, set&(1<<v-1)|set>>(v+1)<<v)
		}
	}
	return left
}

// renamed is the graph in which node v is called names[v].
func renamed(g api.Graph, names []int) api.Graph {
	h := make(api.Graph, len(g))
	for a := range g {
		for b := range g {
			if g[a]>>b&1 == 1 {
				h[names[a]] |= 1 << names[b]
			}
		}
	}
	return h
}

// orders returns all orders of n nodes, rising.
func orders(n int) [][]int {
	list := [][]int{{}}
	for range n {
		var longer [][]int
		for _, o := range list {
			for v := range n {
				if !contains(o, v) {
					longer = append(longer, append(append([]int{}, o...), v))
				}
			}
		}
		list = longer
	}
	return list
}

func contains(l []int, v int) bool {
	for _, w := range l {
		if v == w {
			return true
		}
	}
	return false
}

// places returns all Places of a graph with k sweeps.
func places(n, k int) []chase.Place {
	var list []chase.Place
	for a := range n {
		for b := a; b < n; b++ {
			for cat := range n {
				if k == 2 || a == b {
					list = append(list, chase.Place{A: a, B: b, Cat: cat})
				}
			}
		}
	}
	return list
}

// badGraphs returns what is no valid graph.
func badGraphs() map[string]api.Graph {
	return map[string]api.Graph{
		"nil":                 nil,
		"empty":               {},
		"nine nodes":          path(9),
		"very many nodes":     make(api.Graph, 100000),
		"own neighbour":       {1},
		"own neighbour of 2":  {3, 1},
		"one-sided":           {2, 0},
		"one-sided of three":  {2, 5, 0},
		"no such neighbour":   {2},
		"beyond the nodes":    {6, 1},
		"negative":            {-1, 1},
		"negative alone":      {-1},
		"most negative":       {-1 << 63, 1},
		"sign bit":            {2, 1 | -1<<63},
		"greatest":            {1<<63 - 1, 1},
		"two parts":           {0, 0},
		"two parts of two":    {2, 1, 8, 4},
		"a lone node":         {2, 1, 0},
		"a lone first node":   {0, 4, 2},
		"two parts of cycles": {6, 5, 3, 48, 40, 24},
	}
}

func same[T comparable](t *testing.T, what string, got, want T) {
	t.Helper()
	if got != want {
		t.Errorf("%s: got %v, want %v", what, got, want)
	}
}

// sameList compares lists by their text, for which nil and empty are the same.
func sameList[T any](t *testing.T, what string, got, want []T) {
	t.Helper()
	if g, w := fmt.Sprint(got), fmt.Sprint(want); g != w {
		t.Errorf("%s: got %s, want %s", what, g, w)
	}
}
