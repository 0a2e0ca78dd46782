package minor_test

import (
	"slices"
	"testing"

	"lampblack/api"
	"lampblack/ears"
	"lampblack/minor"
	"lampblack/width"
)

// isModel goes by the definition.
func isModel(g, pattern api.Graph, model []int) bool {
	if len(model) != len(pattern) {
		return false
	}
	for i, a := range model {
		if a < 0 || a >= 1<<len(g) || !joined(g, nodesOf(a)) {
			return false
		}
		for j, b := range model[:i] {
			if a&b != 0 || near(pattern, i, j) && !meet(g, a, b) {
				return false
			}
		}
	}
	return true
}

// meet reports whether some node of one set is a neighbour of one of the other.
func meet(g api.Graph, a, b int) bool {
	for _, v := range nodesOf(a) {
		for _, u := range nodesOf(b) {
			if near(g, v, u) {
				return true
			}
		}
	}
	return false
}

// tried returns, of all models, those with the fewest nodes, of these the first one: each
// node of the graph is given to each node of the pattern, or to none.
func tried(g, pattern api.Graph) []int {
	var best []int
	least := len(g) + 1
	model := make([]int, len(pattern))
	var give func(v, used int)
	give = func(v, used int) {
		if v < len(g) {
			give(v+1, used)
			for i := range model {
				model[i] |= 1 << v
				give(v+1, used+1)
				model[i] &^= 1 << v
			}
			return
		}
		better := used < least || used == least && slices.Compare(model, best) < 0
		if better && !slices.Contains(model, 0) && isModel(g, pattern, model) {
			best, least = slices.Clone(model), used
		}
	}
	give(0, 0)
	return best
}

// matches compares Model with what was tried.
func matches(t *testing.T, g, pattern api.Graph) {
	t.Helper()
	want, e1 := tried(g, pattern), api.OK
	if want == nil {
		e1 = api.ErrNone
	}
	got, e2 := minor.Model(g, pattern)
	if !slices.Equal(got, want) || e1 != e2 {
		t.Errorf("%v in %v: got %v %v, want %v %v", pattern, g, got, e2, want, e1)
	}
	if ok, e := minor.Check(g, pattern, got); ok != (want != nil) || e != api.OK {
		t.Error(pattern, g, got, ok, e)
	}
}

func TestModelExamples(t *testing.T) {
	table := []struct {
		g, pattern api.Graph
		want       []int
	}{
		{cycle(5), complete(3), []int{1, 2, 28}},
		{cycle(3), complete(3), []int{1, 2, 4}},
		{cycle(8), complete(3), []int{1, 2, 252}},
		{cycle(5), cycle(4), []int{1, 2, 4, 24}},
		{apart(1), apart(1), []int{1}},
		{apart(8), apart(6), []int{1, 2, 4, 8, 16, 32}},
		{path(8), complete(2), []int{1, 2}},
		{beside(apart(1), path(2)), complete(2), []int{2, 4}},
		{path(3), path(3), []int{1, 2, 4}},
		{path(3), edges(3, [2]int{0, 1}, [2]int{0, 2}), []int{2, 1, 4}},
		{wheel(4), complete(4), []int{1, 2, 12, 16}},
		{cube(), complete(4), []int{1, 2, 12, 112}},
		{sides(3, 3, false), complete(4), []int{1, 8, 18, 36}},
		{complete(8), complete(6), []int{1, 2, 4, 8, 16, 32}},
		{star(5), path(3), []int{2, 1, 4}},
	}
	for _, row := range table {
		what := text(row.g, row.pattern)
		got, e := minor.Model(row.g, row.pattern)
		sameText(t, what, got, row.want)
		same(t, what, e, api.OK)
		ok, e := minor.Check(row.g, row.pattern, row.want)
		same(t, what, ok, true)
		same(t, what, e, api.OK)
	}
}

func TestModelNone(t *testing.T) {
	table := [][2]api.Graph{
		{apart(1), apart(2)}, {apart(5), apart(6)}, {apart(8), complete(2)}, {path(8), complete(3)}, {star(8), complete(3)}, {cycle(8), complete(4)},
		{star(8), path(4)}, {path(8), star(4)}, {cycle(8), star(4)}, {cycle(4), beside(complete(3), apart(1))}, {sides(2, 6, false), cycle(5)},
		{complete(5), complete(6)}, {cube(), complete(5)}, {wheel(5), complete(5)}, {sides(4, 4, false), complete(6)}, {beside(complete(4), complete(4)), complete(5)},
		{ladder(4), complete(4)}, {fan(8), sides(2, 3, false)}, {complete(4), sides(2, 3, false)}, {sides(2, 6, false), beside(complete(3), complete(3))},
	}
	for _, row := range table {
		got, e := minor.Model(row[0], row[1])
		sameText(t, text(row), got, []int{})
		same(t, text(row), e, api.ErrNone)
	}
}

// TestModelSmall is P7.1 for all graphs and patterns of at most 4 nodes.
func TestModelSmall(t *testing.T) {
	for _, g := range smallGraphs(4) {
		for _, pattern := range smallGraphs(4) {
			matches(t, g, pattern)
		}
	}
}

// TestModelSome is P7.1 for some graphs of 5 to 8 nodes, with all numbers of nodes that a
// pattern may have.
func TestModelSome(t *testing.T) {
	d := dice(5)
	list := patterns()
	for n := 1; n <= 6; n++ {
		list = append(list, someGraphs(n, 12)...)
	}
	most := []int{5: 6, 6: 6, 7: 4, 8: 4} // nodes of a pattern
	for n := 5; n <= 8; n++ {
		for _, g := range append(someGraphs(n, 12), outerGraphs(n, 4)...) {
			for _, pattern := range some(list, 10, &d) {
				if len(pattern) <= most[n] {
					matches(t, g, renamed(pattern, shuffled(len(pattern), &d)))
				}
			}
		}
	}
	matches(t, cycle(7), cycle(5))
	matches(t, wheel(6), wheel(4))
	matches(t, cube(), wheel(4))
}

// TestMinorOfMinor is P7.8: a model in what a node was taken from, or in which two are one,
// gives a model in the graph.
func TestMinorOfMinor(t *testing.T) {
	d := dice(8)
	found := 0
	for _, g := range append(some(manyGraphs(), 150, &d), largeGraphs()...) {
		for _, pattern := range some(patterns(), 3, &d) {
			v := d.below(len(g))
			if less, e := minor.Delete(g, v); e == api.OK {
				found += lifts(t, g, less, pattern, v, 0)
			}
			for b := range g {
				a := d.below(len(g))
				if less, e := minor.Contract(g, a, b); e == api.OK {
					found += lifts(t, g, less, pattern, b, 1<<a)
				}
			}
		}
	}
	if found < 500 {
		t.Error("only", found)
	}
}

// lifts checks that a model in a graph that has one node less, v, is one in the graph, if
// the set that meets a set has v, too. It returns the number of models.
func lifts(t *testing.T, g, less, pattern api.Graph, v, beside int) int {
	t.Helper()
	model, e := minor.Model(less, pattern)
	if e != api.OK {
		return 0
	}
	for i, set := range model {
		model[i] = set&(1<<v-1) | set>>v<<(v+1)
		if model[i]&beside != 0 {
			model[i] |= 1 << v
		}
	}
	if ok, e := minor.Check(g, pattern, model); !ok || e != api.OK {
		t.Error(g, less, pattern, model, ok, e)
	}
	if _, e := minor.Model(g, pattern); e != api.OK {
		t.Error(g, less, pattern, e)
	}
	return 1
}

// TestCheckSmall compares with the definition for all slices of numbers about the sets.
func TestCheckSmall(t *testing.T) {
	accepted := 0
	for _, g := range smallGraphs(3) {
		for _, pattern := range smallGraphs(3) {
			for _, model := range slicesOf(-1, 1<<len(g), len(pattern)) {
				want := isModel(g, pattern, model)
				ok, e := minor.Check(g, pattern, model)
				if ok != want || e != api.OK {
					t.Fatal(g, pattern, model, ok, e)
				}
				if _, e := minor.Model(g, pattern); ok && e != api.OK {
					t.Fatal(g, pattern, model, e)
				}
				if ok {
					accepted++
				}
			}
		}
	}
	if accepted < 200 {
		t.Error("only", accepted)
	}
}

// slicesOf returns all slices of n numbers from low to high.
func slicesOf(low, high, n int) [][]int {
	list := [][]int{{}}
	for range n {
		var longer [][]int
		for _, l := range list {
			for v := low; v <= high; v++ {
				longer = append(longer, append(slices.Clone(l), v))
			}
		}
		list = longer
	}
	return list
}

// TestCheckMany changes models a bit at a time.
func TestCheckMany(t *testing.T) {
	d := dice(13)
	accepted, refused := 0, 0
	for _, g := range largeGraphs() {
		for _, pattern := range some(patterns(), 4, &d) {
			model, e := minor.Model(g, pattern)
			if e != api.OK {
				continue
			}
			for range 12 {
				ok, e := minor.Check(g, pattern, model)
				if ok != isModel(g, pattern, model) || e != api.OK {
					t.Fatal(g, pattern, model, ok, e)
				}
				if ok {
					accepted++
				} else {
					refused++
				}
				model[d.below(len(model))] ^= 1 << d.below(len(g))
			}
		}
	}
	if accepted < 1000 || refused < 1000 {
		t.Error(accepted, refused)
	}
}

// TestCheckOther: what is no model is false, and no error.
func TestCheckOther(t *testing.T) {
	bad := map[string][]int{
		"nil": nil, "empty": {}, "two sets": {1, 2}, "four sets": {1, 2, 4, 8}, "four, one empty": {1, 2, 28, 0}, "empty set": {1, 2, 0},
		"not connected": {1, 2, 20}, "in common": {1, 3, 28}, "the same": {1, 1, 28}, "no neighbours": {1, 4, 8}, "too few nodes": {1, 2, 24},
		"negative": {1, 2, -4}, "minus one": {-1, 2, 28}, "least": {1, 2, -1 << 63}, "beyond": {1, 2, 32}, "beyond by a node": {1, 2, 60}, "greatest": {1, 2, 1<<63 - 1},
		"very many": make([]int, 1000000),
	}
	for name, model := range bad {
		ok, e := minor.Check(cycle(5), complete(3), model)
		same(t, name, ok, false)
		same(t, name, e, api.OK)
	}
	for _, model := range [][]int{{1, 2, 28}, {28, 2, 1}, {2, 28, 1}, {3, 12, 16}, {17, 6, 8}} {
		ok, e := minor.Check(cycle(5), complete(3), model)
		same(t, text(model), ok, true)
		same(t, text(model), e, api.OK)
	}
	// A model need not have as few nodes as possible, but not more than there are.
	ok, _ := minor.Check(cycle(5), path(2), []int{7, 24})
	same(t, "all nodes", ok, true)
	ok, _ = minor.Check(path(2), path(3), []int{1, 2, 4})
	same(t, "more nodes", ok, false)
	// Nor more sets than the pattern has nodes.
	ok, e := minor.Check(complete(4), complete(3), []int{1, 2, 4, 8})
	same(t, "more sets", ok, false)
	same(t, "more sets", e, api.OK)
}

// TestKnown is P7.2.
func TestKnown(t *testing.T) {
	k := []api.Graph{1: {0}, 2: {2, 1}, 3: {6, 5, 3}, 4: {14, 13, 11, 7}, 5: {30, 29, 27, 23, 15}, 6: {62, 61, 59, 55, 47, 31}}
	for n := 1; n <= 6; n++ {
		g, e := minor.K(n)
		sameText(t, text("K", n), g, k[n])
		same(t, text("K", n), e, api.OK)
	}
	for _, n := range []int{0, 7, 8, -1, -3, 64, 1 << 40, -1 << 63, 1<<63 - 1} {
		g, e := minor.K(n)
		sameText(t, text("K", n), g, api.Graph{})
		same(t, text("K", n), e, api.ErrArg)
	}
	sameText(t, "K23", minor.K23(), api.Graph{28, 28, 3, 3, 3})
	w := []api.Graph{3: {14, 13, 11, 7}, 4: {26, 21, 26, 21, 15}, 5: {50, 37, 42, 52, 41, 31}}
	for n := 3; n <= 5; n++ {
		g, e := minor.W(n)
		sameText(t, text("W", n), g, w[n])
		same(t, text("W", n), e, api.OK)
	}
	for _, n := range []int{2, 6, 0, 1, 7, -1, -4, 63, 1 << 40, -1 << 63, 1<<63 - 1} {
		g, e := minor.W(n)
		sameText(t, text("W", n), g, api.Graph{})
		same(t, text("W", n), e, api.ErrArg)
	}
}

func TestGreatestExamples(t *testing.T) {
	table := []struct {
		g    api.Graph
		want int
	}{
		{apart(1), 1}, {apart(8), 1}, {path(2), 2}, {path(8), 2}, {star(8), 2}, {cycle(3), 3}, {cycle(8), 3}, {ladder(4), 3}, {sides(2, 6, true), 3},
		{complete(4), 4}, {wheel(7), 4}, {sides(3, 3, false), 4}, {cube(), 4}, {sides(3, 5, false), 4}, {sides(4, 4, false), 5}, {complete(5), 5}, {complete(6), 6}, {complete(7), 6},
		{complete(8), 6}, {beside(complete(4), complete(4)), 4}, {beside(complete(5), complete(3)), 5}, {sides(5, 3, true), 6},
	}
	for _, row := range table {
		n, e := minor.Greatest(row.g)
		same(t, text(row.g), n, row.want)
		same(t, text(row.g), e, api.OK)
	}
}

// TestGreatestMany is P7.5, P7.11 and P7.12.
func TestGreatestMany(t *testing.T) {
	for _, g := range manyGraphs() {
		most, e := minor.Greatest(g)
		w, _ := width.Width(g)
		if e != api.OK || most > w+1 {
			t.Fatal(g, most, e, w)
		}
		for n := 1; n <= 6; n++ {
			_, e := minor.Model(g, complete(n))
			if (e == api.OK) != (n <= most) || n == 3 && (e == api.OK) != (w > 1) {
				t.Fatal(g, most, n, e, w)
			}
			if n < 5 && len(g) < 6 && (tried(g, complete(n)) != nil) != (n <= most) {
				t.Fatal(g, most, n)
			}
		}
	}
}

// TestForests is P7.11, without the width: a forest is taken apart by its leaves.
func TestForests(t *testing.T) {
	for _, g := range manyGraphs() {
		_, e := minor.Model(g, complete(3))
		if (e == api.ErrNone) != isForest(g) {
			t.Fatal(g, e)
		}
	}
}

// isForest goes by numbers: a forest has as many edges as nodes, less its parts.
func isForest(g api.Graph) bool {
	ends, parts := 0, 0
	seen := 0
	for v := range g {
		ends += len(nodesOf(g[v]))
		if seen>>v&1 == 0 {
			parts++
			seen |= partOf(g, v)
		}
	}
	return ends/2 == len(g)-parts
}

// partOf returns the greatest connected set with a node.
func partOf(g api.Graph, v int) int {
	best := 0
	for set := range 1 << len(g) {
		if set>>v&1 == 1 && len(nodesOf(set)) > len(nodesOf(best)) && joined(g, nodesOf(set)) {
			best = set
		}
	}
	return best
}

// TestWheels is P7.13.
func TestWheels(t *testing.T) {
	w, _ := minor.W(3)
	firm := 0
	for _, g := range manyGraphs() {
		cuts, _ := ears.Cuts(g)
		pairs, _ := ears.Pairs(g)
		if len(g) < 4 || cuts != 0 || len(pairs) != 0 || !joined(g, nodesOf(1<<len(g)-1)) {
			continue
		}
		firm++
		if model, e := minor.Model(g, w); e != api.OK || !isModel(g, w, model) {
			t.Fatal(g, model, e)
		}
	}
	if firm < 30 {
		t.Error("only", firm)
	}
}
