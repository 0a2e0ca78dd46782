package sweep_test

import (
	"fmt"
	"slices"
	"testing"

	"lampblack/api"
	"lampblack/sweep"
	"lampblack/width"
)

// breadthOf goes by the definition.
func breadthOf(g api.Graph, layout []int) int {
	most := 0
	for i := range len(layout) + 1 {
		most = max(most, len(borderOf(g, layout[:i])))
	}
	return most
}

func TestLayoutExamples(t *testing.T) {
	table := []struct {
		name    string
		g       api.Graph
		layout  []int
		breadth int
	}{
		{"one node", apart(1), []int{0}, 0},
		{"two apart", apart(2), []int{0, 1}, 0},
		{"seven apart", apart(7), []int{0, 1, 2, 3, 4, 5, 6}, 0},
		{"path of two", path(2), []int{0, 1}, 1},
		{"path", path(3), []int{0, 1, 2}, 1},
		{"path of seven", path(7), []int{0, 1, 2, 3, 4, 5, 6}, 1},
		{"middle first", edges(3, [2]int{0, 1}, [2]int{0, 2}), []int{0, 1, 2}, 1},
		{"star", star(5), []int{0, 1, 2, 3, 4}, 1},
		{"star, middle last", edges(4, [2]int{3, 0}, [2]int{3, 1}, [2]int{3, 2}), []int{0, 3, 1, 2}, 1},
		{"spider", spider(), []int{0, 1, 4, 2, 3, 5, 6}, 2},
		{"cycle of four", cycle(4), []int{0, 1, 2, 3}, 2},
		{"cycle of seven", cycle(7), []int{0, 1, 2, 3, 4, 5, 6}, 2},
		{"wheel", wheel(6), []int{0, 1, 2, 3, 4, 5}, 3},
		{"two sides of three", sides(3, 3), []int{0, 1, 2, 3, 4, 5}, 3},
		{"complete of seven", complete(7), []int{0, 1, 2, 3, 4, 5, 6}, 6},
		{"three and four", beside(complete(3), complete(4)), []int{0, 1, 2, 3, 4, 5, 6}, 3},
	}
	for _, row := range table {
		l, w, e := sweep.Layout(row.g)
		sameText(t, row.name, l, row.layout)
		same(t, row.name, w, row.breadth)
		same(t, row.name, e, api.OK)
	}
}

func TestBreadthExamples(t *testing.T) {
	table := []struct {
		g      api.Graph
		layout []int
		want   int
	}{
		{path(3), []int{0, 1, 2}, 1},
		{path(3), []int{2, 1, 0}, 1},
		{path(3), []int{0, 2, 1}, 2},
		{path(3), []int{1, 0, 2}, 1},
		{path(5), []int{0, 2, 4, 1, 3}, 3},
		{path(5), []int{1, 3, 0, 2, 4}, 2},
		{star(5), []int{1, 2, 3, 4, 0}, 4},
		{cycle(4), []int{0, 2, 1, 3}, 2},
		{complete(3), []int{2, 0, 1}, 2},
		{apart(3), []int{2, 0, 1}, 0},
		{apart(1), []int{0}, 0},
	}
	for _, row := range table {
		n, e := sweep.Breadth(row.g, row.layout)
		same(t, fmt.Sprint(row), n, row.want)
		same(t, fmt.Sprint(row), e, api.OK)
	}
}

// TestLayoutsAll is P3.1: it compares with all layouts.
func TestLayoutsAll(t *testing.T) {
	graphs := append(smallGraphs(), someGraphs(6, 40)...)
	graphs = append(graphs, someGraphs(7, 6)...)
	for _, g := range append(graphs, spider()) {
		least, first := len(g), []int(nil)
		for _, o := range orders(len(g)) {
			n, e := sweep.Breadth(g, o)
			if e != api.OK || n != breadthOf(g, o) {
				t.Fatal(g, o, n, e)
			}
			if n < least {
				least, first = n, o
			}
		}
		if l, w, e := sweep.Layout(g); !slices.Equal(l, first) || w != least || e != api.OK {
			t.Fatal(g, l, w, e, first, least)
		}
	}
}

func TestLayoutsLarge(t *testing.T) {
	d := dice(5)
	for _, g := range largeGraphs() {
		l, best, e := sweep.Layout(g)
		if breadthOf(g, l) != best || e != api.OK {
			t.Fatal(g, l, best, e)
		}
		for range 50 {
			o := shuffled(len(g), &d)
			n, e := sweep.Breadth(g, o)
			if n != breadthOf(g, o) || e != api.OK || n < best || n == best && slices.Compare(o, l) < 0 {
				t.Fatal(g, o, n, e, l, best)
			}
		}
	}
}

func TestBreadthErrors(t *testing.T) {
	for _, l := range badLayouts() {
		what := fmt.Sprint(len(l), " from ", l[:min(4, len(l))])
		n, e := sweep.Breadth(path(3), l)
		same(t, what, n, 0)
		same(t, what, e, api.ErrArg)
	}
}

// TestWider is P3.10.
func TestWider(t *testing.T) {
	for _, g := range manyGraphs() {
		_, n, _ := sweep.Layout(g)
		w, e := width.Width(g)
		if n < w || n > len(g)-1 || e != api.OK {
			t.Fatal(g, n, w, e)
		}
	}
	_, n, _ := sweep.Layout(spider())
	w, _ := width.Width(spider())
	same(t, "path width of the spider", n, 2)
	same(t, "width of the spider", w, 1)
}

// TestParts is P3.11.
func TestParts(t *testing.T) {
	for _, g := range manyGraphs() {
		_, w, _ := sweep.Layout(g)
		for v := range g {
			if len(g) == 1 {
				continue
			}
			if _, n, e := sweep.Layout(without(g, v)); n > w || n < w-1 || e != api.OK {
				t.Fatal(g, v, n, w, e)
			}
		}
	}
}
