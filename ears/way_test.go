package ears_test

import (
	"fmt"
	"slices"
	"testing"

	"lampblack/api"
	"lampblack/ears"
)

// areWays goes by the definition of ways from s to end that keep apart.
func areWays(g api.Graph, s, end int, l [][]int) bool {
	var inner []int
	direct := 0
	for _, way := range l {
		if len(way) < 2 || way[0] != s || way[len(way)-1] != end {
			return false
		}
		for i := 1; i < len(way); i++ {
			if !near(g, way[i-1], way[i]) {
				return false
			}
		}
		inner = append(inner, way[1:len(way)-1]...)
		if len(way) == 2 {
			direct++
		}
	}
	return areDifferent(append(inner, s, end)) && direct <= 1
}

// cutOf goes by the definition.
func cutOf(g api.Graph, s, end int) int {
	least, fewest := 0, len(g)
	for set := range 1 << len(g) {
		if set&setOf(s, end) != 0 || joined(within(g, all(g)&^set))[s]&setOf(end) != 0 {
			continue
		}
		if size := len(nodesOf(set)); size < fewest {
			least, fewest = set, size
		}
	}
	return least
}

// mostWays returns how many ways there can be: as many as it takes nodes to part s and
// end, and one more if they are neighbours.
func mostWays(g api.Graph, s, end int) int {
	if !near(g, s, end) {
		return len(nodesOf(cutOf(g, s, end)))
	}
	h := slices.Clone(g)
	h[s] &^= setOf(end)
	h[end] &^= setOf(s)
	return 1 + len(nodesOf(cutOf(h, s, end)))
}

func TestWaysExamples(t *testing.T) {
	table := []struct {
		name   string
		g      api.Graph
		s, end int
		ways   int
		cut    int // -1: they are neighbours
	}{
		{"cycle of four", cycle(4), 0, 2, 2, 10},
		{"cycle of four, neighbours", cycle(4), 0, 1, 2, -1},
		{"path of two", path(2), 0, 1, 1, -1},
		{"path of three", path(3), 0, 2, 1, 2},
		{"path of three, neighbours", path(3), 1, 2, 1, -1},
		{"path of four", path(4), 0, 3, 1, 2},
		{"path of four, backward", path(4), 3, 0, 1, 2},
		{"two apart", apart(2), 0, 1, 0, 0},
		{"two paths", beside(path(2), path(2)), 1, 3, 0, 0},
		{"complete of ten", complete(10), 9, 4, 9, -1},
		{"two triangles", chain(2), 0, 4, 1, 4},
		{"sides", sides(4, 6), 0, 3, 6, 1008},
		{"other sides", sides(4, 6), 4, 9, 4, 15},
		{"across", sides(5, 5), 0, 5, 5, -1},
		{"petersen", petersen(), 0, 2, 3, 50},
		{"cycle of ten", cycle(10), 2, 7, 2, 9},
		{"ladder", ladder(5), 0, 9, 2, 34},
		{"star", star(10), 3, 9, 1, 1},
	}
	for _, row := range table {
		l, e := ears.Ways(row.g, row.s, row.end)
		same(t, row.name+" ways", len(l), row.ways)
		same(t, fmt.Sprint(row.name, l), areWays(row.g, row.s, row.end, l), true)
		same(t, row.name, e, api.OK)
		set, e := ears.Cut(row.g, row.s, row.end)
		same(t, row.name+" cut", set, max(row.cut, 0))
		if row.cut < 0 {
			same(t, row.name, e, api.ErrArg)
		} else {
			same(t, row.name, e, api.OK)
		}
	}
}

func TestWaysErrors(t *testing.T) {
	for _, g := range []api.Graph{cycle(4), path(3), apart(2), complete(10), apart(1), apart(10)} {
		for s := range g {
			refused := [][2]int{{s, s}}
			for _, bad := range badNodes(len(g)) {
				refused = append(refused, [2]int{s, bad}, [2]int{bad, s}, [2]int{bad, bad})
			}
			for _, p := range refused {
				l, e := ears.Ways(g, p[0], p[1])
				same(t, fmt.Sprint(g, p), len(l), 0)
				same(t, fmt.Sprint(g, p), e, api.ErrArg)
				set, e := ears.Cut(g, p[0], p[1])
				same(t, fmt.Sprint(g, p), set, 0)
				same(t, fmt.Sprint(g, p), e, api.ErrArg)
			}
			for end := range g {
				if s == end {
					continue
				}
				_, e := ears.Ways(g, s, end)
				same(t, fmt.Sprint(g, s, end), e, api.OK)
				_, e = ears.Cut(g, s, end)
				same(t, fmt.Sprint(g, s, end), e == api.ErrArg, near(g, s, end))
			}
		}
	}
}

// TestWaysMany is P4.6 and P4.12. The cut shows that there can be no more ways.
func TestWaysMany(t *testing.T) {
	for _, g := range manyGraphs() {
		double := isDouble(g)
		for s := range g {
			for end := range g {
				if s == end || len(g) > 5 && (s+3*end+len(g))%4 > 0 {
					continue
				}
				l, e := ears.Ways(g, s, end)
				if e != api.OK || !areWays(g, s, end, l) || len(l) != mostWays(g, s, end) || double && len(l) < 2 {
					t.Fatal(g, s, end, l, e)
				}
				set, e := ears.Cut(g, s, end)
				if near(g, s, end) {
					if set != 0 || e != api.ErrArg {
						t.Fatal(g, s, end, set, e)
					}
					continue
				}
				if e != api.OK || set != cutOf(g, s, end) || len(nodesOf(set)) != len(l) {
					t.Fatal(g, s, end, set, e, l)
				}
			}
		}
	}
}

// TestWaysGiveUp: a first way that is the shortest is in the way of two others, so that a
// part of it must be given up.
func TestWaysGiveUp(t *testing.T) {
	g := edges(8, [2]int{0, 1}, [2]int{1, 2}, [2]int{2, 7}, [2]int{0, 3}, [2]int{3, 4}, [2]int{4, 2}, [2]int{1, 5}, [2]int{5, 6}, [2]int{6, 7})
	d := dice(12)
	for range 50 {
		names := shuffled(8, &d)
		h := renamed(g, names)
		l, e := ears.Ways(h, names[0], names[7])
		same(t, fmt.Sprint(h, l), len(l), 2)
		same(t, fmt.Sprint(h, l), areWays(h, names[0], names[7], l), true)
		same(t, fmt.Sprint(h, l), e, api.OK)
	}
}

// TestPairsOfWays is P4.7 and P4.12: where a pair parts a double graph, some two nodes
// have just two ways.
func TestPairsOfWays(t *testing.T) {
	for _, g := range manyGraphs() {
		if !isDouble(g) || len(edgesOf(g)) == len(g)*(len(g)-1)/2 {
			continue
		}
		fewest := len(g)
		for s := range g {
			for end := range s {
				if !near(g, s, end) {
					l, _ := ears.Ways(g, s, end)
					fewest = min(fewest, len(l))
				}
			}
		}
		pairs, _ := ears.Pairs(g)
		if (fewest == 2) != (len(pairs) > 0) {
			t.Fatal(g, fewest, pairs)
		}
	}
}
