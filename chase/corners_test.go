package chase_test

import (
	"fmt"
	"math/bits"
	"slices"
	"testing"

	"lampblack/api"
	"lampblack/chase"
)

// coversIn goes by the definition, node by node.
func coversIn(g api.Graph, set []int, v, u int) bool {
	if v == u || !contains(set, v) || !contains(set, u) {
		return false
	}
	for _, w := range set {
		if near(g, v, w) && !near(g, u, w) {
			return false
		}
	}
	return true
}

func cornerIn(g api.Graph, set []int, v int) bool {
	return slices.ContainsFunc(set, func(u int) bool { return coversIn(g, set, v, u) })
}

func nodesOf(set int) []int {
	var list []int
	for v := range 8 {
		if set>>v&1 == 1 {
			list = append(list, v)
		}
	}
	return list
}

func takesApart(g api.Graph, order []int) bool {
	for i := 0; i+1 < len(order); i++ {
		if !cornerIn(g, order[i:], order[i]) {
			return false
		}
	}
	return true
}

func TestCornersExamples(t *testing.T) {
	table := []struct {
		name string
		g    api.Graph
		set  int
		want [][2]int
	}{
		{"path", path(3), 7, [][2]int{{0, 1}, {2, 1}}},
		{"part of a path", path(3), 3, [][2]int{{0, 1}, {1, 0}}},
		{"ends of a path", path(3), 5, nil},
		{"one node of a path", path(3), 2, nil},
		{"no node", path(3), 0, nil},
		{"one node", path(1), 1, nil},
		{"one node, none", path(1), 0, nil},
		{"cycle of four", cycle(4), 15, nil},
		{"three of a cycle of four", cycle(4), 7, [][2]int{{0, 1}, {2, 1}}},
		{"cycle of eight", cycle(8), 255, nil},
		{"three alike", complete(3), 7, [][2]int{{0, 1}, {0, 2}, {1, 0}, {1, 2}, {2, 0}, {2, 1}}},
		{"star", star(4), 15, [][2]int{{1, 0}, {2, 0}, {3, 0}}},
		{"wheel", wheel(6), 63, [][2]int{{1, 0}, {2, 0}, {3, 0}, {4, 0}, {5, 0}}},
		{"cube", cube(), 255, nil},
	}
	for _, row := range table {
		l, e := chase.Corners(row.g, row.set)
		sameList(t, row.name, l, row.want)
		same(t, row.name, e, api.OK)
	}
}

func TestCornersAll(t *testing.T) {
	for _, g := range manyGraphs() {
		for set := range 1 << len(g) {
			var want [][2]int
			list := nodesOf(set)
			for _, v := range list {
				for _, u := range list {
					if coversIn(g, list, v, u) {
						want = append(want, [2]int{v, u})
					}
				}
			}
			if l, e := chase.Corners(g, set); !slices.Equal(l, want) || e != api.OK {
				t.Fatal(g, set, l, e, want)
			}
		}
	}
}

func TestCornersErrors(t *testing.T) {
	for _, set := range []int{-1, 8, 15, 1 << 62, -1 << 63, 1<<63 - 1} {
		l, e := chase.Corners(path(3), set)
		sameList(t, fmt.Sprint(set), l, nil)
		same(t, fmt.Sprint(set), e, api.ErrArg)
	}
	_, e := chase.Corners(complete(8), 256)
	same(t, "beyond eight nodes", e, api.ErrArg)
}

func TestApartExamples(t *testing.T) {
	table := []struct {
		name string
		g    api.Graph
		want []int
	}{
		{"one node", path(1), []int{0}},
		{"two nodes", path(2), []int{0, 1}},
		{"path", path(3), []int{0, 1, 2}},
		{"path of eight", path(8), []int{0, 1, 2, 3, 4, 5, 6, 7}},
		{"star", star(4), []int{1, 2, 0, 3}},
		{"all neighbours", complete(4), []int{0, 1, 2, 3}},
		{"wheel", wheel(6), []int{1, 2, 0, 3, 4, 5}},
		{"kite", edges(4, [2]int{0, 1}, [2]int{1, 2}, [2]int{2, 3}, [2]int{1, 3}), []int{0, 1, 2, 3}},
	}
	for _, row := range table {
		l, e := chase.Apart(row.g)
		sameList(t, row.name, l, row.want)
		same(t, row.name, e, api.OK)
	}
	for _, g := range []api.Graph{cycle(4), cycle(5), cycle(8), cube(), edges(5, [2]int{0, 1}, [2]int{1, 2}, [2]int{2, 3}, [2]int{3, 4}, [2]int{1, 4})} {
		l, e := chase.Apart(g)
		sameList(t, fmt.Sprint(g), l, nil)
		same(t, fmt.Sprint(g), e, api.ErrState)
	}
}

// TestApartFirst compares with the first of all orders that takes a graph apart.
func TestApartFirst(t *testing.T) {
	for _, g := range smallGraphs() {
		var want []int
		for _, o := range orders(len(g)) {
			ok, e := chase.CheckApart(g, o)
			if ok != takesApart(g, o) || e != api.OK {
				t.Fatal(g, o, ok, e)
			}
			if ok && want == nil {
				want = o
			}
		}
		l, e := chase.Apart(g)
		if !slices.Equal(l, want) || (e == api.OK) != (want != nil) || want == nil && e != api.ErrState {
			t.Fatal(g, l, e, want)
		}
	}
	for _, g := range manyGraphs() {
		if l, e := chase.Apart(g); e == api.OK {
			if ok, _ := chase.CheckApart(g, l); !ok || !takesApart(g, l) || len(l) != len(g) {
				t.Fatal(g, l)
			}
		}
	}
}

// TestCheckApartOther: what is no order is false, and no error.
func TestCheckApartOther(t *testing.T) {
	g := path(3)
	accepted := [][]int{{0, 1, 2}, {0, 2, 1}, {2, 1, 0}, {2, 0, 1}}
	for _, o := range accepted {
		ok, e := chase.CheckApart(g, o)
		same(t, fmt.Sprint(o), ok, true)
		same(t, fmt.Sprint(o), e, api.OK)
	}
	for _, o := range [][]int{
		nil, {}, {0}, {0, 1}, {0, 1, 2, 2}, {0, 1, 2, 3}, {0, 0, 1}, {0, 1, 1}, {0, 1, 0}, {0, 1, 3}, {0, 1, -1},
		{-1, 0, 1}, {3, 0, 1}, {1, 0, 2}, {1, 2, 0}, {0, 1, 64}, {0, 1, 66}, {0, 1, -62}, {0, 1, 1 << 62}, {0, 1, -1 << 63}, make([]int, 100000),
	} {
		ok, e := chase.CheckApart(g, o)
		same(t, fmt.Sprint(len(o), " from ", o[:min(4, len(o))]), ok, false)
		same(t, fmt.Sprint(len(o)), e, api.OK)
	}
	if ok, e := chase.CheckApart(path(1), []int{0}); !ok || e != api.OK {
		t.Error("one node", ok, e)
	}
	if ok, e := chase.CheckApart(path(1), []int{1}); ok || e != api.OK {
		t.Error("one node, not it", ok, e)
	}
}

func TestCore(t *testing.T) {
	table := []struct {
		name string
		g    api.Graph
		want int
	}{
		{"one node", path(1), 1},
		{"two nodes", path(2), 2},
		{"path", path(3), 4},
		{"star", star(4), 8},
		{"path of eight", path(8), 128},
		{"cycle of four", cycle(4), 15},
		{"cube", cube(), 255},
		{"cycle of four with a tail", edges(5, [2]int{0, 1}, [2]int{1, 2}, [2]int{2, 3}, [2]int{3, 4}, [2]int{1, 4}), 30},
		{"two ways of three", edges(5, [2]int{0, 1}, [2]int{1, 2}, [2]int{2, 3}, [2]int{0, 3}, [2]int{0, 4}, [2]int{2, 4}), 31},
		{"twins in a cycle of five", edges(6, [2]int{0, 1}, [2]int{1, 2}, [2]int{2, 3}, [2]int{3, 4}, [2]int{4, 0}, [2]int{5, 1}, [2]int{5, 4}, [2]int{5, 0}), 62},
	}
	for _, row := range table {
		s, e := chase.Core(row.g)
		same(t, row.name, s, row.want)
		same(t, row.name, e, api.OK)
	}
	for _, g := range manyGraphs() {
		set := nodesOf(1<<len(g) - 1)
		for {
			i := slices.IndexFunc(set, func(v int) bool { return cornerIn(g, set, v) })
			if i < 0 {
				break
			}
			set = slices.Delete(set, i, i+1)
		}
		if s, e := chase.Core(g); !slices.Equal(nodesOf(s), set) || e != api.OK {
			t.Fatal(g, s, e, set)
		}
	}
}

// TestOneSweep is P1.7.
func TestOneSweep(t *testing.T) {
	for _, g := range manyGraphs() {
		_, apart := chase.Apart(g)
		_, rounds := chase.Rounds(g, 1)
		core, _ := chase.Core(g)
		n := bits.OnesCount(uint(core))
		if (apart == api.OK) != (rounds == api.OK) || apart == api.OK && n != 1 || apart != api.OK && n < 4 {
			t.Fatal(g, apart, rounds, core)
		}
	}
}

// TestCornersTaken is P1.11.
func TestCornersTaken(t *testing.T) {
	for _, g := range manyGraphs() {
		pairs, _ := chase.Corners(g, 1<<len(g)-1)
		for _, p := range pairs {
			for k := 1; k <= 2; k++ {
				_, before := chase.Rounds(g, k)
				if _, after := chase.Rounds(without(g, p[0]), k); before != after {
					t.Fatal(g, p, k, before, after)
				}
			}
		}
	}
}
