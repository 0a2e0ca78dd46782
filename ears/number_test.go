package ears_test

import (
	"fmt"
	"slices"
	"testing"

	"lampblack/api"
	"lampblack/ears"
)

// isNumbering goes by the definition.
func isNumbering(g api.Graph, l []int) bool {
	sorted := slices.Sorted(slices.Values(l))
	for v := range g {
		if len(l) != len(g) || sorted[v] != v {
			return false
		}
	}
	for i, v := range l {
		isNear := func(u int) bool { return near(g, u, v) }
		isEnd := i == 0 || i == len(l)-1
		if !isEnd && (!slices.ContainsFunc(l[:i], isNear) || !slices.ContainsFunc(l[i:], isNear)) {
			return false
		}
	}
	return near(g, l[0], l[len(l)-1])
}

// firstNumbering tries one slice after the other; it gives a beginning up only where its
// last node has no neighbour before it, or none behind it.
func firstNumbering(g api.Graph, s, end int) []int {
	var goOn func(l []int) []int
	goOn = func(l []int) []int {
		if len(l) == len(g)-1 {
			l = append(slices.Clone(l), end)
			if isNumbering(g, l) {
				return l
			}
			return nil
		}
		before := setOf(l...)
		if last := l[len(l)-1]; g[last]&^before == 0 {
			return nil
		}
		for v := range g {
			if v == end || slices.Contains(l, v) || g[v]&before == 0 {
				continue
			}
			if whole := goOn(append(slices.Clone(l), v)); whole != nil {
				return whole
			}
		}
		return nil
	}
	return goOn([]int{s})
}

func TestNumberExamples(t *testing.T) {
	table := []struct {
		g      api.Graph
		s, end int
		want   []int
	}{
		{cycle(4), 0, 1, []int{0, 3, 2, 1}},
		{cycle(4), 1, 0, []int{1, 2, 3, 0}},
		{cycle(4), 3, 0, []int{3, 2, 1, 0}},
		{cycle(3), 0, 1, []int{0, 2, 1}},
		{cycle(3), 2, 1, []int{2, 0, 1}},
		{complete(5), 3, 1, []int{3, 0, 2, 4, 1}},
		{wheel(5), 0, 1, []int{0, 2, 3, 4, 1}},
		{wheel(5), 2, 0, []int{2, 1, 3, 4, 0}},
		{cycle(10), 0, 9, []int{0, 1, 2, 3, 4, 5, 6, 7, 8, 9}},
		{cycle(10), 9, 0, []int{9, 8, 7, 6, 5, 4, 3, 2, 1, 0}},
		{complete(10), 9, 0, []int{9, 1, 2, 3, 4, 5, 6, 7, 8, 0}},
	}
	for _, row := range table {
		l, e := ears.Number(row.g, row.s, row.end)
		sameText(t, fmt.Sprint(row), l, row.want)
		same(t, fmt.Sprint(row), e, api.OK)
	}
}

// TestNumberErrors: no neighbours are ErrArg, also of a graph that is not double.
func TestNumberErrors(t *testing.T) {
	for _, g := range []api.Graph{cycle(4), path(3), apart(3), chain(2), complete(10), path(2), apart(1)} {
		for s := range g {
			for end := range g {
				want := api.ErrArg
				if near(g, s, end) {
					want = api.ErrState
				}
				if near(g, s, end) && isDouble(g) {
					want = api.OK
				}
				l, e := ears.Number(g, s, end)
				same(t, fmt.Sprint(g, s, end), e, want)
				same(t, fmt.Sprint(g, s, end), len(l) > 0, want == api.OK)
			}
			for _, bad := range badNodes(len(g)) {
				for _, p := range [][2]int{{s, bad}, {bad, s}, {bad, bad}} {
					l, e := ears.Number(g, p[0], p[1])
					same(t, fmt.Sprint(g, p), e, api.ErrArg)
					same(t, fmt.Sprint(g, p), len(l), 0)
				}
			}
		}
	}
}

// TestNumberMany is P4.4, and P4.9 of numberings.
func TestNumberMany(t *testing.T) {
	for _, g := range manyGraphs() {
		double := isDouble(g)
		for _, p := range edgesOf(g) {
			for _, q := range [][2]int{p, {p[1], p[0]}} {
				l, e := ears.Number(g, q[0], q[1])
				if !double {
					if len(l) != 0 || e != api.ErrState {
						t.Fatal(g, q, l, e)
					}
					continue
				}
				if e != api.OK || !isNumbering(g, l) || !slices.Equal(l, firstNumbering(g, q[0], q[1])) {
					t.Fatal(g, q, l, e)
				}
				if ok, e := ears.CheckNumber(g, l); !ok || e != api.OK {
					t.Fatal(g, q, l, ok, e)
				}
			}
		}
	}
}

func TestCheckNumberExamples(t *testing.T) {
	table := []struct {
		name string
		g    api.Graph
		l    []int
		want bool
	}{
		{"first", cycle(4), []int{0, 3, 2, 1}, true},
		{"forward", cycle(4), []int{0, 1, 2, 3}, true},
		{"ends that are no neighbours", cycle(4), []int{0, 1, 3, 2}, false},
		{"all neighbours", complete(4), []int{0, 1, 2, 3}, true},
		{"a diagonal", edges(4, [2]int{0, 1}, [2]int{0, 2}, [2]int{1, 2}, [2]int{2, 3}, [2]int{0, 3}), []int{0, 1, 3, 2}, true},
		{"no neighbour before one", cycle(5), []int{0, 2, 1, 3, 4}, false},
		{"no neighbour behind one", cycle(5), []int{0, 1, 3, 2, 4}, false},
		{"ways from both sides", cycle(5), []int{1, 2, 3, 4, 0}, true},
		{"path of two", path(2), []int{0, 1}, true},
		{"path of two, backward", path(2), []int{1, 0}, true},
		{"two apart", apart(2), []int{0, 1}, false},
		{"one node", apart(1), []int{0}, false},
		{"path of three", path(3), []int{0, 1, 2}, false},
		{"path of three from the middle", path(3), []int{1, 0, 2}, false},
		{"path of three to the middle", path(3), []int{0, 2, 1}, false},
		{"nil", cycle(3), nil, false},
		{"empty", cycle(3), []int{}, false},
		{"too few", cycle(3), []int{0, 1}, false},
		{"too many", cycle(3), []int{0, 1, 2, 0}, false},
		{"twice", cycle(3), []int{0, 1, 0}, false},
		{"twice inside", complete(4), []int{0, 1, 1, 2}, false},
		{"twice at last", complete(4), []int{0, 1, 2, 1}, false},
		{"negative", cycle(3), []int{0, -1, 2}, false},
		{"negative first", cycle(3), []int{-1, 1, 2}, false},
		{"beyond", cycle(3), []int{0, 3, 2}, false},
		{"beyond at last", cycle(3), []int{0, 1, 3}, false},
		{"far beyond", cycle(3), []int{0, 65, 2}, false},
		{"least", cycle(3), []int{0, -1 << 63, 2}, false},
		{"least first", cycle(3), []int{-1 << 63, 1, 2}, false},
		{"greatest at last", cycle(3), []int{0, 1, 1<<63 - 1}, false},
		{"very long", cycle(3), make([]int, 1000000), false},
		{"ten", cycle(10), []int{0, 1, 2, 3, 4, 5, 6, 7, 8, 9}, true},
	}
	for _, row := range table {
		ok, e := ears.CheckNumber(row.g, row.l)
		same(t, row.name, ok, row.want)
		same(t, row.name, e, api.OK)
	}
}

// TestCheckNumberMany compares all orders, of larger graphs some, with the definition.
// There is no numbering of a graph with three nodes or more that is not double.
func TestCheckNumberMany(t *testing.T) {
	d := dice(4)
	for _, g := range manyGraphs() {
		list := [][]int{}
		for range 100 {
			list = append(list, shuffled(len(g), &d))
		}
		if len(g) <= 5 {
			list = orders(len(g))
		}
		double := isDouble(g)
		for _, l := range list {
			want := isNumbering(g, l)
			ok, e := ears.CheckNumber(g, l)
			if ok != want || e != api.OK || ok && len(g) > 2 && !double {
				t.Fatal(g, l, ok, e, want)
			}
		}
	}
}
