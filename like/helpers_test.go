package like_test

import (
	"fmt"
	"slices"
	"testing"

	"lampblack/api"
	"lampblack/like"
)

type form = like.Form
type frac = api.Frac

// edges is a graph of n nodes with these edges.
func edges(n int, pairs ...[2]int) api.Graph {
	g := make(api.Graph, n)
	for _, p := range pairs {
		g[p[0]] |= 1 << p[1]
		g[p[1]] |= 1 << p[0]
	}
	return g
}

func apart(n int) api.Graph { return make(api.Graph, n) }

func path(n int) api.Graph {
	g := apart(n)
	for v := 1; v < n; v++ {
		g[v] |= 1 << (v - 1)
		g[v-1] |= 1 << v
	}
	return g
}

func cycle(n int) api.Graph {
	g := path(n)
	g[0] |= 1 << (n - 1)
	g[n-1] |= 1
	return g
}

func complete(n int) api.Graph { return complement(apart(n)) }

// star has node 0 in the middle.
func star(n int) api.Graph { return sides(1, n-1) }

// sides has all edges between the first a nodes and the b others.
func sides(a, b int) api.Graph { return complement(beside(complete(a), complete(b))) }

// beside has two graphs beside each other.
func beside(g, h api.Graph) api.Graph {
	both := slices.Clone(g)
	for _, set := range h {
		both = append(both, set<<len(g))
	}
	return both
}

// complement exchanges neighbours with others.
func complement(g api.Graph) api.Graph {
	h := apart(len(g))
	for v, set := range g {
		h[v] = (1<<len(g) - 1) &^ set &^ (1 << v)
	}
	return h
}

// prism has two triangles, and edges between them.
func prism() api.Graph {
	g := beside(cycle(3), cycle(3))
	for v := range 3 {
		g[v] |= 8 << v
		g[v+3] |= 1 << v
	}
	return g
}

// allGraphs returns all graphs of n nodes.
func allGraphs(n int) []api.Graph {
	var pairs [][2]int
	for b := range n {
		for a := range b {
			pairs = append(pairs, [2]int{a, b})
		}
	}
	var list []api.Graph
	for set := range 1 << len(pairs) {
		var chosen [][2]int
		for i, p := range pairs {
			if set>>i&1 == 1 {
				chosen = append(chosen, p)
			}
		}
		list = append(list, edges(n, chosen...))
	}
	return list
}

// smallGraphs returns all graphs of at most n nodes.
func smallGraphs(n int) []api.Graph {
	var list []api.Graph
	for k := 1; k <= n; k++ {
		list = append(list, allGraphs(k)...)
	}
	return list
}

// dice are numbers that look like chance and are always the same.
type dice uint64

func (d *dice) below(n int) int {
	*d = *d*6364136223846793005 + 1442695040888963407
	return int(uint64(*d) >> 33 % uint64(n))
}

// some returns so many of a list.
func some[T any](list []T, count int, d *dice) []T {
	var chosen []T
	for range count {
		chosen = append(chosen, list[d.below(len(list))])
	}
	return chosen
}

// shuffled returns the numbers below n in some order.
func shuffled(n int, d *dice) []int {
	var l []int
	for v := range n {
		l = slices.Insert(l, d.below(v+1), v)
	}
	return l
}

// someGraphs returns count graphs of n nodes with few and many edges.
func someGraphs(n, count int) []api.Graph {
	d := dice(n)
	var list []api.Graph
	for range count {
		g, many := apart(n), d.below(11)
		for a := range g {
			for b := range a {
				if d.below(10) < many {
					g[a] |= 1 << b
					g[b] |= 1 << a
				}
			}
		}
		list = append(list, g)
	}
	return list
}

// knownGraphs returns well-known graphs of 5 and 6 nodes, among them such as are alike and
// not the same.
func knownGraphs() []api.Graph {
	list := []api.Graph{
		beside(cycle(3), cycle(3)), prism(), sides(3, 3), sides(2, 3), sides(2, 4), complement(prism()),
		beside(path(3), path(3)), beside(cycle(4), path(2)), beside(cycle(3), path(3)), beside(cycle(5), apart(1)), beside(path(2), beside(path(2), path(2))),
		edges(6, [2]int{0, 1}, [2]int{1, 2}, [2]int{2, 0}, [2]int{2, 3}, [2]int{3, 4}, [2]int{4, 5}, [2]int{5, 3}),
		edges(6, [2]int{0, 1}, [2]int{1, 2}, [2]int{2, 3}, [2]int{3, 4}, [2]int{4, 5}, [2]int{5, 0}, [2]int{0, 3}),
		edges(6, [2]int{0, 1}, [2]int{1, 2}, [2]int{2, 3}, [2]int{3, 4}, [2]int{2, 5}),
		edges(6, [2]int{0, 1}, [2]int{1, 2}, [2]int{2, 3}, [2]int{3, 4}, [2]int{1, 5}, [2]int{1, 4}),
	}
	for n := 5; n <= 6; n++ {
		list = append(list, apart(n), path(n), cycle(n), complete(n), star(n))
	}
	return list
}

func largeGraphs() []api.Graph {
	return slices.Concat(knownGraphs(), someGraphs(5, 60), someGraphs(6, 120))
}

func manyGraphs() []api.Graph { return append(smallGraphs(4), largeGraphs()...) }

// renamed is the graph in which names[v] is the name of node v.
func renamed(g api.Graph, names []int) api.Graph {
	h := apart(len(g))
	for v := range g {
		for u := range g {
			if near(g, v, u) {
				h[names[v]] |= 1 << names[u]
			}
		}
	}
	return h
}

// exchanged is the graph with one pair of nodes that are neighbours if they were not.
func exchanged(g api.Graph, d *dice) api.Graph {
	h := slices.Clone(g)
	if a, b := d.below(len(g)), d.below(len(g)); a != b {
		h[a] ^= 1 << b
		h[b] ^= 1 << a
	}
	return h
}

// manyPairs returns all pairs of graphs of at most three nodes, all pairs of well-known
// ones, and for each of many graphs pairs with others, with itself, with itself under other
// names, and with a graph that is nearly the same.
func manyPairs() [][2]api.Graph {
	var list [][2]api.Graph
	for _, graphs := range [][]api.Graph{smallGraphs(3), knownGraphs()} {
		for _, g := range graphs {
			for _, h := range graphs {
				list = append(list, [2]api.Graph{g, h})
			}
		}
	}
	d := dice(41)
	all := manyGraphs()
	for _, g := range all {
		names := renamed(g, shuffled(len(g), &d))
		for _, h := range append(some(all, 3, &d), g, names, exchanged(g, &d), exchanged(names, &d)) {
			list = append(list, [2]api.Graph{g, h})
		}
	}
	return list
}

// trees returns all trees of at most n nodes, under some names.
func trees(n int) []api.Graph {
	last := []api.Graph{apart(1)}
	list := last
	for size := 2; size <= n; size++ {
		var longer []api.Graph
		for _, t := range last {
			for v := range t {
				h := append(slices.Clone(t), 1<<v)
				h[v] |= 1 << (size - 1)
				longer = append(longer, h)
			}
		}
		last = longer
		list = append(list, last...)
	}
	return list
}

// slicesOf returns all slices of n numbers below m, in order.
func slicesOf(n, m int) [][]int {
	all := [][]int{{}}
	for range n {
		var longer [][]int
		for _, l := range all {
			for v := range m {
				longer = append(longer, append(slices.Clone(l), v))
			}
		}
		all = longer
	}
	return all
}

// orders returns all slices that have each number below n once, in order.
func orders(n int) [][]int {
	all := [][]int{{}}
	for range n {
		var longer [][]int
		for _, l := range all {
			for v := range n {
				if !slices.Contains(l, v) {
					longer = append(longer, append(slices.Clone(l), v))
				}
			}
		}
		all = longer
	}
	return all
}

// badGraphs returns what is no valid graph.
func badGraphs() map[string]api.Graph {
	return map[string]api.Graph{
		"nil":                nil,
		"empty":              {},
		"seven nodes":        apart(7),
		"path of seven":      path(7),
		"very many nodes":    make(api.Graph, 100000),
		"own neighbour":      {1},
		"own neighbour of 2": {3, 1},
		"last its own":       {2, 1, 4},
		"one-sided":          {2, 0},
		"one-sided backward": {0, 1},
		"one-sided of three": {2, 5, 0},
		"no such neighbour":  {2},
		"beyond the nodes":   {6, 1},
		"negative":           {-1, 1},
		"negative alone":     {-1},
		"most negative":      {-1 << 63, 1},
		"sign bit":           {2, 1 | -1<<63},
		"greatest":           {1<<63 - 1, 1},
	}
}

func near(g api.Graph, a, b int) bool { return g[a]>>b&1 == 1 }

func same[T comparable](t *testing.T, what string, got, want T) {
	t.Helper()
	if got != want {
		t.Errorf("%s: got %v, want %v", what, got, want)
	}
}

func text(values ...any) string { return fmt.Sprint(values...) }

// sameText compares values by their text, for which nil and empty are the same.
func sameText(t *testing.T, what string, got, want any) {
	t.Helper()
	if g, w := text(got), text(want); g != w {
		t.Errorf("%s: got %s, want %s", what, g, w)
	}
}
