package width_test

import (
	"fmt"
	"slices"
	"testing"

	"lampblack/api"
	"lampblack/width"
)

func TestWidthExamples(t *testing.T) {
	table := []struct {
		name  string
		g     api.Graph
		width int
		order []int
	}{
		{"one node", apart(1), 0, []int{0}},
		{"two apart", apart(2), 0, []int{0, 1}},
		{"five apart", apart(5), 0, []int{0, 1, 2, 3, 4}},
		{"path of two", path(2), 1, []int{0, 1}},
		{"path", path(3), 1, []int{0, 1, 2}},
		{"star", star(5), 1, []int{1, 2, 3, 0, 4}},
		{"path of nine", path(9), 1, []int{0, 1, 2, 3, 4, 5, 6, 7, 8}},
		{"cycle of four", cycle(4), 2, []int{0, 1, 2, 3}},
		{"cycle of nine", cycle(9), 2, []int{0, 1, 2, 3, 4, 5, 6, 7, 8}},
		{"wheel", wheel(6), 3, []int{1, 2, 0, 3, 4, 5}},
		{"grid", grid(3), 3, []int{0, 1, 2, 3, 4, 5, 6, 7, 8}},
		{"two sides of three", sides(3, 3), 3, []int{0, 1, 2, 3, 4, 5}},
		{"two sides of two and seven", sides(2, 7), 2, []int{2, 3, 4, 5, 6, 7, 0, 1, 8}},
		{"complete of nine", complete(9), 8, []int{0, 1, 2, 3, 4, 5, 6, 7, 8}},
		{"four and five", beside(complete(4), complete(5)), 4, []int{0, 1, 2, 3, 4, 5, 6, 7, 8}},
		{"wheel last", edges(5, [2]int{0, 1}, [2]int{1, 2}, [2]int{2, 3}, [2]int{3, 0}, [2]int{4, 0}, [2]int{4, 1}, [2]int{4, 2}, [2]int{4, 3}), 3, []int{0, 1, 2, 3, 4}},
	}
	for _, row := range table {
		w, e := width.Width(row.g)
		same(t, row.name, w, row.width)
		same(t, row.name, e, api.OK)
		l, e := width.Order(row.g)
		sameText(t, row.name, l, row.order)
		same(t, row.name, e, api.OK)
	}
}

// TestOrdersAll is P2.1 and P2.10: it compares with all orders, eliminated by the
// definition.
func TestOrdersAll(t *testing.T) {
	graphs := append(smallGraphs(), someGraphs(6, 40)...)
	graphs = append(graphs, someGraphs(7, 8)...)
	for _, g := range graphs {
		least, first := len(g), []int(nil)
		for _, o := range orders(len(g)) {
			w, e := width.Along(g, o)
			if e != api.OK || w != eliminated(g, o) {
				t.Fatal(g, o, w, e)
			}
			if w < least {
				least, first = w, o
			}
		}
		if w, e := width.Width(g); w != least || e != api.OK {
			t.Fatal(g, w, e, least)
		}
		if l, e := width.Order(g); !slices.Equal(l, first) || e != api.OK {
			t.Fatal(g, l, e, first)
		}
	}
}

func TestOrdersLarge(t *testing.T) {
	d := dice(5)
	for _, g := range largeGraphs() {
		best, _ := width.Width(g)
		l, _ := width.Order(g)
		if w, e := width.Along(g, l); w != best || e != api.OK || eliminated(g, l) != best {
			t.Fatal(g, l, w, e, best)
		}
		for range 20 {
			o := shuffled(len(g), &d)
			if w, e := width.Along(g, o); w != eliminated(g, o) || w < best || e != api.OK {
				t.Fatal(g, o, w, e, best)
			}
		}
	}
}

func shuffled(n int, d *dice) []int {
	var l []int
	for v := range n {
		l = slices.Insert(l, d.below(v+1), v)
	}
	return l
}

func TestAlongErrors(t *testing.T) {
	g := path(3)
	for _, o := range [][]int{
		nil, {}, {0}, {0, 1}, {0, 1, 2, 2}, {0, 1, 2, 3}, {0, 0, 1}, {0, 1, 1}, {0, 1, 3}, {0, 1, -1}, {-1, 0, 1}, {3, 0, 1},
		{0, 1, 64}, {0, 1, 66}, {0, 1, -62}, {0, 1, 1 << 62}, {0, 1, -1 << 63}, make([]int, 100000),
	} {
		what := fmt.Sprint(len(o), " from ", o[:min(4, len(o))])
		w, e := width.Along(g, o)
		same(t, what, w, 0)
		same(t, what, e, api.ErrArg)
	}
	w, e := width.Along(apart(1), []int{0})
	same(t, "one node", w, 0)
	same(t, "one node", e, api.OK)
	w, e = width.Along(star(4), []int{0, 1, 2, 3})
	same(t, "middle first", w, 3)
	same(t, "middle first", e, api.OK)
}

// without is the graph that is left without a node; the nodes behind it move up.
func without(g api.Graph, v int) api.Graph {
	var left api.Graph
	for u, set := range g {
		if u != v {
			left = append(left, set&(1<<v-1)|set>>(v+1)<<v)
		}
	}
	return left
}

func withoutEdge(g api.Graph, a, b int) api.Graph {
	h := slices.Clone(g)
	h[a] &^= 1 << b
	h[b] &^= 1 << a
	return h
}

// contracted gives node a all neighbours of b and takes b away.
func contracted(g api.Graph, a, b int) api.Graph {
	h := slices.Clone(g)
	for _, u := range nodesOf(g[b] &^ setOf(a)) {
		h[a] |= 1 << u
		h[u] |= 1 << a
	}
	return without(h, b)
}

// TestParts is P2.11.
func TestParts(t *testing.T) {
	for _, g := range manyGraphs() {
		w, _ := width.Width(g)
		less := func(h api.Graph) {
			t.Helper()
			if v, e := width.Width(h); v > w || v < w-1 || e != api.OK {
				t.Fatal(g, h, v, w, e)
			}
		}
		for a := range g {
			if len(g) > 1 {
				less(without(g, a))
			}
			for _, b := range nodesOf(g[a]) {
				less(withoutEdge(g, a, b))
				less(contracted(g, a, b))
			}
		}
	}
}
