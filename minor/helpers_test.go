package minor_test

import (
	"fmt"
	"slices"
	"testing"

	"lampblack/api"
)

// edges is a graph of n nodes with these edges.
func edges(n int, pairs ...[2]int) api.Graph {
	g := make(api.Graph, n)
	for _, p := range pairs {
		g[p[0]] |= 1 << p[1]
		g[p[1]] |= 1 << p[0]
	}
	return g
}

func apart(n int) api.Graph { return make(api.Graph, n) }

func path(n int) api.Graph {
	g := apart(n)
	for v := 1; v < n; v++ {
		g[v] |= 1 << (v - 1)
		g[v-1] |= 1 << v
	}
	return g
}

func cycle(n int) api.Graph {
	g := path(n)
	g[0] |= 1 << (n - 1)
	g[n-1] |= 1
	return g
}

func complete(n int) api.Graph { return sides(n, 0, true) }

// star has node 0 in the middle.
func star(n int) api.Graph { return sides(1, n-1, false) }

// sides has all edges between the first a nodes and the b others, and between the first a
// nodes, too, if they are to be joined.
func sides(a, b int, joined bool) api.Graph {
	g := apart(a + b)
	for v := range a + b {
		for u := range v {
			if u < a && (v >= a || joined) {
				g[v] |= 1 << u
				g[u] |= 1 << v
			}
		}
	}
	return g
}

// wheel is a cycle of the nodes 0 to n - 1 around node n.
func wheel(n int) api.Graph {
	g := append(cycle(n), 1<<n-1)
	for v := range n {
		g[v] |= 1 << n
	}
	return g
}

// cube has neighbours whose numbers differ in one bit.
func cube() api.Graph {
	g := apart(8)
	for v := range g {
		g[v] = 1<<(v^1) | 1<<(v^2) | 1<<(v^4)
	}
	return g
}

// ladder has two paths of n nodes, 0 to n - 1 and n on, with rungs between them.
func ladder(n int) api.Graph {
	g := beside(path(n), path(n))
	for v := range n {
		g[v] |= 1 << (v + n)
		g[v+n] |= 1 << v
	}
	return g
}

// fan is a path of the nodes 1 on, of which all are neighbours of 0.
func fan(n int) api.Graph {
	g := star(n)
	for v := 2; v < n; v++ {
		g[v] |= 1 << (v - 1)
		g[v-1] |= 1 << v
	}
	return g
}

// beside has two graphs beside each other.
func beside(g, h api.Graph) api.Graph {
	both := slices.Clone(g)
	for _, set := range h {
		both = append(both, set<<len(g))
	}
	return both
}

// allGraphs returns all graphs of n nodes.
func allGraphs(n int) []api.Graph {
	var pairs [][2]int
	for b := range n {
		for a := range b {
			pairs = append(pairs, [2]int{a, b})
		}
	}
	var list []api.Graph
	for set := range 1 << len(pairs) {
		var chosen [][2]int
		for i, p := range pairs {
			if set>>i&1 == 1 {
				chosen = append(chosen, p)
			}
		}
		list = append(list, edges(n, chosen...))
	}
	return list
}

// dice are numbers that look like chance and are always the same.
type dice uint64

func (d *dice) below(n int) int {
	*d = *d*6364136223846793005 + 1442695040888963407
	return int(uint64(*d) >> 33 % uint64(n))
}

// some returns so many of a list.
func some[T any](list []T, count int, d *dice) []T {
	var chosen []T
	for range count {
		chosen = append(chosen, list[d.below(len(list))])
	}
	return chosen
}

// someGraphs returns count graphs of n nodes with few and many edges.
func someGraphs(n, count int) []api.Graph {
	d := dice(n)
	var list []api.Graph
	for range count {
		g, many := apart(n), d.below(11)
		for a := range g {
			for b := range a {
				if d.below(10) < many {
					g[a] |= 1 << b
					g[b] |= 1 << a
				}
			}
		}
		list = append(list, g)
	}
	return list
}

// outerGraphs returns count graphs of n nodes with edges that do not cross in some order.
func outerGraphs(n, count int) []api.Graph {
	d := dice(3 * n)
	var list []api.Graph
	for range count {
		g, order := apart(n), shuffled(n, &d)
		for range d.below(6 * n) {
			a, b := d.below(n), d.below(n)
			h := slices.Clone(g)
			h[a] |= 1 << b
			h[b] |= 1 << a
			if a != b && !crossed(h, order) {
				g = h
			}
		}
		list = append(list, g)
	}
	return list
}

// smallGraphs returns all graphs of at most n nodes.
func smallGraphs(n int) []api.Graph {
	var list []api.Graph
	for k := 1; k <= n; k++ {
		list = append(list, allGraphs(k)...)
	}
	return list
}

// largeGraphs returns some graphs of 6 to 8 nodes, among them well-known ones.
func largeGraphs() []api.Graph {
	list := []api.Graph{
		sides(3, 3, false), sides(3, 4, false), sides(4, 4, false), sides(2, 5, false), sides(2, 6, false), sides(2, 5, true), sides(3, 5, true),
		beside(complete(3), complete(4)), beside(cycle(4), path(3)), beside(complete(4), complete(4)), beside(apart(3), complete(5)),
		ladder(3), ladder(4), cube(), fan(6), fan(7), fan(8), wheel(6), wheel(7),
	}
	for n := 6; n <= 8; n++ {
		list = append(list, apart(n), path(n), cycle(n), complete(n), star(n), wheel(n-1))
		list = append(list, someGraphs(n, 60)...)
		list = append(list, outerGraphs(n, 30)...)
	}
	return list
}

func manyGraphs() []api.Graph { return append(smallGraphs(5), largeGraphs()...) }

// patterns returns well-known patterns.
func patterns() []api.Graph {
	list := []api.Graph{
		sides(2, 3, false), sides(3, 3, false), sides(2, 4, false), sides(2, 2, true), wheel(3), wheel(4), wheel(5), fan(5), ladder(3),
		beside(path(2), path(2)), beside(complete(3), apart(1)), beside(apart(1), cycle(4)), beside(complete(3), complete(3)), beside(apart(2), complete(4)),
	}
	for n := 1; n <= 6; n++ {
		list = append(list, apart(n), path(n), complete(n), star(n))
	}
	return append(list, cycle(4), cycle(5), cycle(6))
}

// badGraphs returns what is no valid graph.
func badGraphs() map[string]api.Graph {
	return map[string]api.Graph{
		"nil":                nil,
		"empty":              {},
		"nine nodes":         apart(9),
		"path of nine":       path(9),
		"very many nodes":    make(api.Graph, 100000),
		"own neighbour":      {1},
		"own neighbour of 2": {3, 1},
		"one-sided":          {2, 0},
		"one-sided backward": {0, 1},
		"one-sided of three": {2, 5, 0},
		"no such neighbour":  {2},
		"beyond the nodes":   {6, 1},
		"negative":           {-1, 1},
		"negative alone":     {-1},
		"most negative":      {-1 << 63, 1},
		"sign bit":           {2, 1 | -1<<63},
		"greatest":           {1<<63 - 1, 1},
	}
}

// badPatterns returns what is no pattern.
func badPatterns() map[string]api.Graph {
	bad := badGraphs()
	bad["seven nodes"] = apart(7)
	bad["path of seven"] = path(7)
	bad["complete of eight"] = complete(8)
	return bad
}

func near(g api.Graph, a, b int) bool { return g[a]>>b&1 == 1 }

func nodesOf(set int) []int {
	var list []int
	for v := range 63 {
		if set>>v&1 == 1 {
			list = append(list, v)
		}
	}
	return list
}

// joined goes by the definition: the list is not empty, and ways within it lead from its
// first node to all others.
func joined(g api.Graph, list []int) bool {
	if len(list) == 0 {
		return false
	}
	found := list[:1:1]
	for i := 0; i < len(found); i++ {
		for _, u := range list {
			if near(g, found[i], u) && !slices.Contains(found, u) {
				found = append(found, u)
			}
		}
	}
	return len(found) == len(list)
}

// shuffled returns the numbers below n in some order.
func shuffled(n int, d *dice) []int {
	var l []int
	for v := range n {
		l = slices.Insert(l, d.below(v+1), v)
	}
	return l
}

// renamed is the graph in which names[v] is the name of node v.
func renamed(g api.Graph, names []int) api.Graph {
	h := apart(len(g))
	for v := range g {
		for u := range g {
			if near(g, v, u) {
				h[names[v]] |= 1 << names[u]
			}
		}
	}
	return h
}

func same[T comparable](t *testing.T, what string, got, want T) {
	t.Helper()
	if got != want {
		t.Errorf("%s: got %v, want %v", what, got, want)
	}
}

func text(values ...any) string { return fmt.Sprint(values...) }

// sameText compares values by their text, for which nil and empty are the same.
func sameText(t *testing.T, what string, got, want any) {
	t.Helper()
	if g, w := text(got), text(want); g != w {
		t.Errorf("%s: got %s, want %s", what, g, w)
	}
}
