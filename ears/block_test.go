package ears_test

import (
	"fmt"
	"slices"
	"testing"

	"lampblack/api"
	"lampblack/ears"
)

func TestBlockExamples(t *testing.T) {
	table := []struct {
		name    string
		g       api.Graph
		bridges [][2]int
		cuts    int
		blocks  []int
		pairs   [][2]int
		cactus  bool
	}{
		{"two triangles", api.Graph{6, 5, 27, 20, 12}, nil, 4, []int{7, 28}, [][2]int{{0, 2}, {1, 2}, {2, 3}, {2, 4}}, true},
		{"cycle of four", cycle(4), nil, 0, []int{15}, [][2]int{{0, 2}, {1, 3}}, true},
		{"path of three", path(3), [][2]int{{0, 1}, {1, 2}}, 2, []int{3, 6}, nil, true},
		{"one node", apart(1), nil, 0, []int{1}, nil, true},
		{"two apart", apart(2), nil, 0, []int{1, 2}, nil, true},
		{"path of two", path(2), [][2]int{{0, 1}}, 0, []int{3}, nil, true},
		{"triangle", cycle(3), nil, 0, []int{7}, nil, true},
		{"path of four", path(4), [][2]int{{0, 1}, {1, 2}, {2, 3}}, 6, []int{3, 6, 12}, [][2]int{{0, 2}, {1, 2}, {1, 3}}, true},
		{"a triangle and an edge", beside(cycle(3), path(2)), [][2]int{{3, 4}}, 0, []int{7, 24}, nil, true},
		{"a path and a node", beside(path(3), apart(1)), [][2]int{{0, 1}, {1, 2}}, 2, []int{3, 6, 8}, nil, true},
		{"complete of four", complete(4), nil, 0, []int{15}, nil, false},
		{"four and a diagonal", edges(4, [2]int{0, 1}, [2]int{0, 2}, [2]int{0, 3}, [2]int{1, 2}, [2]int{2, 3}), nil, 0, []int{15}, [][2]int{{0, 2}}, false},
		{"a diagonal beside", beside(cycle(3), complete(4)), nil, 0, []int{7, 120}, nil, false},
		{"star", star(4), [][2]int{{0, 1}, {0, 2}, {0, 3}}, 1, []int{3, 5, 9}, [][2]int{{0, 1}, {0, 2}, {0, 3}}, true},
		{"ten apart", apart(10), nil, 0, []int{1, 2, 4, 8, 16, 32, 64, 128, 256, 512}, nil, true},
		{"complete of ten", complete(10), nil, 0, []int{1023}, nil, false},
	}
	for _, row := range table {
		bridges, e := ears.Bridges(row.g)
		sameText(t, row.name+" bridges", bridges, row.bridges)
		same(t, row.name, e, api.OK)
		cuts, e := ears.Cuts(row.g)
		same(t, row.name+" cuts", cuts, row.cuts)
		same(t, row.name, e, api.OK)
		blocks, e := ears.Blocks(row.g)
		sameText(t, row.name+" blocks", blocks, row.blocks)
		same(t, row.name, e, api.OK)
		pairs, e := ears.Pairs(row.g)
		sameText(t, row.name+" pairs", pairs, row.pairs)
		same(t, row.name, e, api.OK)
		cactus, e := ears.Cactus(row.g)
		same(t, row.name+" cactus", cactus, row.cactus)
		same(t, row.name, e, api.OK)
	}
}

// bridgesOf goes by the definition.
func bridgesOf(g api.Graph) [][2]int {
	var list [][2]int
	for _, p := range edgesOf(g) {
		h := slices.Clone(g)
		h[p[0]] &^= setOf(p[1])
		h[p[1]] &^= setOf(p[0])
		if joined(h)[p[0]]&setOf(p[1]) == 0 {
			list = append(list, p)
		}
	}
	return list
}

// blocksOf goes by the definition.
func blocksOf(g api.Graph) []int {
	var whole, greatest []int
	for set := 1; set <= all(g); set++ {
		nodes := nodesOf(set)
		if len(nodes) == 1 && g[nodes[0]] != 0 {
			continue
		}
		if isConnected(g, set) && cutsOf(g, set) == 0 {
			whole = append(whole, set)
		}
	}
	for _, set := range whole {
		isLess := func(other int) bool { return other != set && other&set == set }
		if !slices.ContainsFunc(whole, isLess) {
			greatest = append(greatest, set)
		}
	}
	return greatest
}

// pairsOf goes by the definition.
func pairsOf(g api.Graph) [][2]int {
	var list [][2]int
	for a := range g {
		for b := a + 1; b < len(g); b++ {
			if isConnected(g, all(g)) && !isConnected(g, all(g)&^setOf(a, b)) {
				list = append(list, [2]int{a, b})
			}
		}
	}
	return list
}

// isCactus counts the cycles of each edge, one after the other, until one has two.
func isCactus(g api.Graph) bool {
	cycles := map[[2]int]int{}
	most := 0
	var goOn func(way []int)
	goOn = func(way []int) {
		last := way[len(way)-1]
		// Each cycle is gone once: from its least node, towards the lesser neighbour.
		if len(way) > 2 && near(g, last, way[0]) && way[1] < last {
			for i, v := range way {
				u := way[(i+1)%len(way)]
				p := [2]int{min(u, v), max(u, v)}
				cycles[p]++
				most = max(most, cycles[p])
			}
		}
		for v := way[0] + 1; v < len(g) && most < 2; v++ {
			if near(g, last, v) && !slices.Contains(way, v) {
				goOn(append(slices.Clone(way), v))
			}
		}
	}
	for v := range g {
		goOn([]int{v})
	}
	return most < 2
}

// TestBlocksMany compares with the definitions.
func TestBlocksMany(t *testing.T) {
	kinds := map[string]int{}
	for _, g := range manyGraphs() {
		bridges, e1 := ears.Bridges(g)
		cuts, e2 := ears.Cuts(g)
		blocks, e3 := ears.Blocks(g)
		pairs, e4 := ears.Pairs(g)
		cactus, e5 := ears.Cactus(g)
		if e1|e2|e3|e4|e5 != api.OK {
			t.Fatal(g, e1, e2, e3, e4, e5)
		}
		if !slices.Equal(bridges, bridgesOf(g)) || cuts != cutsOf(g, all(g)) || !slices.Equal(blocks, blocksOf(g)) {
			t.Fatal(g, bridges, cuts, blocks)
		}
		if !slices.Equal(pairs, pairsOf(g)) || cactus != isCactus(g) {
			t.Fatal(g, pairs, cactus)
		}
		kinds[fmt.Sprint("bridges ", len(bridges) > 0, ", cuts ", cuts > 0, ", pairs ", len(pairs) > 0, ", cactus ", cactus)]++
	}
	// The graphs are of nearly all the kinds that there can be.
	if len(kinds) < 12 {
		t.Error(kinds)
	}
}

// TestEveryEdgeInOneBlock is P4.10.
func TestEveryEdgeInOneBlock(t *testing.T) {
	for _, g := range manyGraphs() {
		blocks, _ := ears.Blocks(g)
		cuts, _ := ears.Cuts(g)
		bridges, _ := ears.Bridges(g)
		together := 0
		for i, block := range blocks {
			together |= block
			for _, other := range blocks[:i] {
				if common := block & other; len(nodesOf(common)) > 1 || common&^cuts != 0 {
					t.Fatal(g, blocks, cuts)
				}
			}
			if l := nodesOf(block); len(l) == 2 && !slices.Contains(bridges, [2]int{l[0], l[1]}) {
				t.Fatal(g, blocks, bridges)
			}
		}
		for _, p := range edgesOf(g) {
			in := 0
			for _, block := range blocks {
				if block&setOf(p[:]...) == setOf(p[:]...) {
					in++
				}
			}
			if in != 1 {
				t.Fatal(g, blocks, p)
			}
		}
		same(t, fmt.Sprint(g, " in blocks"), together, all(g))
	}
}

func renamedPairs(l [][2]int, names []int) [][2]int {
	var list [][2]int
	for _, p := range l {
		a, b := names[p[0]], names[p[1]]
		list = append(list, [2]int{min(a, b), max(a, b)})
	}
	slices.SortFunc(list, func(p, q [2]int) int { return slices.Compare(p[:], q[:]) })
	return list
}

// TestRenaming is P4.14.
func TestRenaming(t *testing.T) {
	d := dice(14)
	for _, g := range manyGraphs() {
		names := shuffled(len(g), &d)
		h := renamed(g, names)
		bridges, _ := ears.Bridges(g)
		if l, e := ears.Bridges(h); e != api.OK || !slices.Equal(l, renamedPairs(bridges, names)) {
			t.Fatal(g, names, l, e)
		}
		cuts, _ := ears.Cuts(g)
		if set, e := ears.Cuts(h); e != api.OK || set != renamedSet(cuts, names) {
			t.Fatal(g, names, set, e)
		}
		blocks, _ := ears.Blocks(g)
		for i := range blocks {
			blocks[i] = renamedSet(blocks[i], names)
		}
		slices.Sort(blocks)
		if l, e := ears.Blocks(h); e != api.OK || !slices.Equal(l, blocks) {
			t.Fatal(g, names, l, e)
		}
		pairs, _ := ears.Pairs(g)
		if l, e := ears.Pairs(h); e != api.OK || !slices.Equal(l, renamedPairs(pairs, names)) {
			t.Fatal(g, names, l, e)
		}
	}
}
