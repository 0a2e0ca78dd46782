package ears_test

import (
	"fmt"
	"slices"
	"testing"

	"lampblack/api"
)

// edges is a graph of n nodes with these edges.
func edges(n int, pairs ...[2]int) api.Graph {
	g := make(api.Graph, n)
	for _, p := range pairs {
		g[p[0]] |= 1 << p[1]
		g[p[1]] |= 1 << p[0]
	}
	return g
}

func apart(n int) api.Graph { return make(api.Graph, n) }

func path(n int) api.Graph {
	g := apart(n)
	for v := 1; v < n; v++ {
		g[v] |= 1 << (v - 1)
		g[v-1] |= 1 << v
	}
	return g
}

func cycle(n int) api.Graph {
	g := path(n)
	g[0] |= 1 << (n - 1)
	g[n-1] |= 1
	return g
}

func complete(n int) api.Graph {
	g := apart(n)
	for v := range g {
		g[v] = (1<<n - 1) &^ (1 << v)
	}
	return g
}

// star has node 0 in the middle.
func star(n int) api.Graph {
	g := apart(n)
	for v := 1; v < n; v++ {
		g[0] |= 1 << v
		g[v] = 1
	}
	return g
}

// wheel is a cycle of the nodes 1 to n - 1 around node 0.
func wheel(n int) api.Graph {
	g := star(n)
	for v := 1; v < n; v++ {
		u := v%(n-1) + 1
		g[v] |= 1 << u
		g[u] |= 1 << v
	}
	return g
}

// sides has all edges between the first a nodes and the b others.
func sides(a, b int) api.Graph {
	g := apart(a + b)
	for v := range g {
		g[v] = 1<<a - 1
		if v < a {
			g[v] = (1<<b - 1) << a
		}
	}
	return g
}

// beside has two graphs beside each other.
func beside(g, h api.Graph) api.Graph {
	both := slices.Clone(g)
	for _, set := range h {
		both = append(both, set<<len(g))
	}
	return both
}

// without is the graph that is left without a node; the nodes behind it move up.
func without(g api.Graph, v int) api.Graph {
	var left api.Graph
	for u, set := range g {
		if u != v {
			left = append(left, set&(1<<v-1)|set>>(v+1)<<v)
		}
	}
	return left
}

// allGraphs returns all graphs of n nodes.
func allGraphs(n int) []api.Graph {
	var pairs [][2]int
	for b := range n {
		for a := range b {
			pairs = append(pairs, [2]int{a, b})
		}
	}
	var list []api.Graph
	for set := range 1 << len(pairs) {
		var chosen [][2]int
		for i, p := range pairs {
			if set>>i&1 == 1 {
				chosen = append(chosen, p)
			}
		}
		list = append(list, edges(n, chosen...))
	}
	return list
}

// dice are numbers that look like chance and are always the same.
type dice uint64

func (d *dice) below(n int) int {
	*d = *d*6364136223846793005 + 1442695040888963407
	return int(uint64(*d) >> 33 % uint64(n))
}

// someGraphs returns count graphs of n nodes with few and many edges.
func someGraphs(n, count int) []api.Graph {
	d := dice(n)
	var list []api.Graph
	for range count {
		g, many := apart(n), d.below(11)
		for a := range g {
			for b := range a {
				if d.below(10) < many {
					g[a] |= 1 << b
					g[b] |= 1 << a
				}
			}
		}
		list = append(list, g)
	}
	return list
}

// smallGraphs returns all graphs of at most 5 nodes.
func smallGraphs() []api.Graph {
	var list []api.Graph
	for n := 1; n <= 5; n++ {
		list = append(list, allGraphs(n)...)
	}
	return list
}

// grown returns a graph of n nodes that has grown, step by step: by a node beside, a leaf,
// a cycle at a node, or an ear. Its blocks are of many kinds.
func grown(n int, d *dice) api.Graph {
	g := apart(1)
	for len(g) < n {
		old, kind := len(g), d.below(8)
		a, b := d.below(old), d.below(old)
		many := 1 + d.below(min(4, n-old))
		g = append(g, path(many)...)
		for v := old; v < len(g); v++ {
			g[v] <<= old
		}
		if kind > 0 {
			join(g, a, old)
		}
		if kind > 4 && a != b {
			join(g, b, len(g)-1)
		}
		if kind > 2 && many > 1 {
			join(g, a, len(g)-1)
		}
	}
	return renamed(g, shuffled(n, d))
}

// join makes two nodes neighbours.
func join(g api.Graph, a, b int) {
	g[a] |= 1 << b
	g[b] |= 1 << a
}

// renamed gives each node v the name names[v].
func renamed(g api.Graph, names []int) api.Graph {
	h := apart(len(g))
	for v, near := range g {
		h[names[v]] = renamedSet(near, names)
	}
	return h
}

func renamedSet(set int, names []int) int {
	var list []int
	for _, v := range nodesOf(set) {
		list = append(list, names[v])
	}
	return setOf(list...)
}

func petersen() api.Graph {
	g := beside(cycle(5), apart(5))
	for v := range 5 {
		join(g, v, v+5)
		join(g, v+5, (v+2)%5+5)
	}
	return g
}

// ladder has two paths of n nodes, and a street between each two nodes at one height.
func ladder(n int) api.Graph {
	g := beside(path(n), path(n))
	for v := range n {
		join(g, v, v+n)
	}
	return g
}

// chain has count triangles, each with a node of the one before.
func chain(count int) api.Graph {
	g := apart(2*count + 1)
	for v := 2; v < len(g); v += 2 {
		join(g, v-2, v-1)
		join(g, v-1, v)
		join(g, v-2, v)
	}
	return g
}

// knownGraphs returns well-known graphs of 6 to 10 nodes, of each kind some with 10.
func knownGraphs() []api.Graph {
	dumbbell := beside(complete(5), complete(5))
	join(dumbbell, 2, 7)
	shared := chain(2)
	join(shared, 0, 3)
	list := []api.Graph{
		petersen(), ladder(3), ladder(4), ladder(5), chain(3), chain(4), dumbbell, shared,
		sides(3, 3), sides(2, 6), sides(2, 8), sides(5, 5), sides(4, 6), sides(1, 9),
		beside(complete(3), cycle(7)), beside(cycle(4), path(3)), beside(apart(3), chain(3)), beside(path(5), path(5)),
		beside(chain(2), chain(2)), beside(apart(1), complete(9)), beside(star(5), cycle(5)),
	}
	for n := 6; n <= api.MaxEars; n++ {
		list = append(list, apart(n), path(n), cycle(n), complete(n), star(n), wheel(n))
	}
	return list
}

// largeGraphs returns some graphs of 6 to 10 nodes.
func largeGraphs() []api.Graph {
	d := dice(5)
	list := knownGraphs()
	for n := 6; n <= api.MaxEars; n++ {
		list = append(list, someGraphs(n, 30)...)
		for range 60 {
			list = append(list, grown(n, &d))
		}
	}
	return list
}

func manyGraphs() []api.Graph { return append(smallGraphs(), largeGraphs()...) }

func near(g api.Graph, a, b int) bool { return g[a]>>b&1 == 1 }

func nodesOf(set int) []int {
	var list []int
	for v := range 63 {
		if set>>v&1 == 1 {
			list = append(list, v)
		}
	}
	return list
}

func setOf(nodes ...int) int {
	set := 0
	for _, v := range nodes {
		set |= 1 << v
	}
	return set
}

// orders returns all orders of n nodes, rising.
func orders(n int) [][]int {
	list := [][]int{{}}
	for range n {
		var longer [][]int
		for _, o := range list {
			for v := range n {
				if !slices.Contains(o, v) {
					longer = append(longer, append(slices.Clone(o), v))
				}
			}
		}
		list = longer
	}
	return list
}

func shuffled(n int, d *dice) []int {
	var l []int
	for v := range n {
		l = slices.Insert(l, d.below(v+1), v)
	}
	return l
}

func same[T comparable](t *testing.T, what string, got, want T) {
	t.Helper()
	if got != want {
		t.Errorf("%s: got %v, want %v", what, got, want)
	}
}

// sameText compares values by their text, for which nil and empty are the same.
func sameText(t *testing.T, what string, got, want any) {
	t.Helper()
	if g, w := fmt.Sprint(got), fmt.Sprint(want); g != w {
		t.Errorf("%s: got %s, want %s", what, g, w)
	}
}

// badGraphs returns what is no valid graph.
func badGraphs() map[string]api.Graph {
	return map[string]api.Graph{
		"nil":                nil,
		"empty":              {},
		"eleven nodes":       apart(11),
		"cycle of eleven":    cycle(11),
		"complete of eleven": complete(11),
		"very many nodes":    make(api.Graph, 100000),
		"own neighbour":      {1},
		"own neighbour of 2": {3, 1},
		"one-sided":          {2, 0},
		"one-sided of three": {2, 5, 0},
		"one-sided of ten":   append(cycle(9), 1),
		"no such neighbour":  {2},
		"beyond the nodes":   {6, 1},
		"negative":           {-1, 1},
		"negative alone":     {-1},
		"most negative":      {-1 << 63, 1},
		"sign bit":           {2, 1 | -1<<63},
		"greatest":           {1<<63 - 1, 1},
	}
}

// badNodes returns numbers that are no nodes of a graph of n nodes.
func badNodes(n int) []int {
	return []int{-1, n, n + 1, 62, 63, 64, 64 + n - 1, -64, -1 << 63, 1<<63 - 1, 1 << 62, 1 << 32}
}

// edgesOf returns all edges, rising.
func edgesOf(g api.Graph) [][2]int {
	var list [][2]int
	for a := range g {
		for b := a + 1; b < len(g); b++ {
			if near(g, a, b) {
				list = append(list, [2]int{a, b})
			}
		}
	}
	return list
}

// within is the graph in which only nodes of a set have neighbours, in the set.
func within(g api.Graph, set int) api.Graph {
	h := apart(len(g))
	for _, v := range nodesOf(set) {
		h[v] = g[v] & set
	}
	return h
}

// joined returns for each node the nodes that are connected with it, and itself. Steps
// may lead in one direction only.
func joined(g api.Graph) []int {
	rows := slices.Clone(g)
	for v := range rows {
		rows[v] |= 1 << v
	}
	for k := range rows {
		for v := range rows {
			if rows[v]>>k&1 == 1 {
				rows[v] |= rows[k]
			}
		}
	}
	return rows
}

// isConnected reports whether all nodes of a set are connected within it.
func isConnected(g api.Graph, set int) bool {
	rows := joined(within(g, set))
	for _, v := range nodesOf(set) {
		if rows[v] != set {
			return false
		}
	}
	return true
}

// cutsOf returns the cut nodes of what a set is in itself, by the definition.
func cutsOf(g api.Graph, set int) int {
	cuts := 0
	rows := joined(within(g, set))
	for _, v := range nodesOf(set) {
		others := set &^ setOf(v)
		left := joined(within(g, others))
		for _, a := range nodesOf(others) {
			if rows[a]&others != left[a] {
				cuts |= setOf(v)
			}
		}
	}
	return cuts
}

func all(g api.Graph) int { return 1<<len(g) - 1 }

func isDouble(g api.Graph) bool {
	return len(g) >= 3 && isConnected(g, all(g)) && cutsOf(g, all(g)) == 0
}
