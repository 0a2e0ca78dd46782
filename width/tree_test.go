package width_test

import (
	"fmt"
	"math/bits"
	"slices"
	"testing"

	"lampblack/api"
	"lampblack/width"
)

type tree = width.Tree

// piece returns the bags to which parents and children lead from bag i, by bags that
// are allowed.
func piece(t tree, i int, allowed func(int) bool) []int {
	found := []int{i}
	for at := 0; at < len(found); at++ {
		for j := range t.Bags {
			beside := t.Parent[j] == found[at] || t.Parent[found[at]] == j
			if beside && allowed(j) && !slices.Contains(found, j) {
				found = append(found, j)
			}
		}
	}
	return found
}

// isTree goes by counting: n bags with n - 1 parents that are all together are a tree.
func isTree(t tree) bool {
	n := len(t.Bags)
	if n < 1 || n > 30 || len(t.Parent) != n {
		return false
	}
	roots := 0
	for i, p := range t.Parent {
		if p < -1 || p >= n || p == i {
			return false
		}
		if p == -1 {
			roots++
		}
	}
	return roots == 1 && len(piece(t, 0, func(int) bool { return true })) == n
}

// decomposes goes by the definition; it returns -1 if t is no tree decomposition.
func decomposes(g api.Graph, t tree) int {
	if !isTree(t) {
		return -1
	}
	most := 0
	for _, bag := range t.Bags {
		if bag < 0 || bag >= 1<<len(g) {
			return -1
		}
		most = max(most, len(nodesOf(bag)))
	}
	has := func(v int) func(int) bool { return func(i int) bool { return t.Bags[i]>>v&1 == 1 } }
	for v := range g {
		with := 0
		first := -1
		for i := range t.Bags {
			if has(v)(i) {
				with++
				first = i
			}
		}
		if with == 0 || len(piece(t, first, has(v))) != with {
			return -1
		}
		for _, u := range nodesOf(g[v]) {
			if !slices.ContainsFunc(t.Bags, func(bag int) bool { return bag>>v&1 == 1 && bag>>u&1 == 1 }) {
				return -1
			}
		}
	}
	return most - 1
}

// someTree returns a tree decomposition of any shape: that of any order, with bags that
// are needless and nodes that are, its bags in any order, with any root.
func someTree(g api.Graph, d *dice) tree {
	bags, pairs := orderTree(g, shuffled(len(g), d))
	if d.below(4) == 0 {
		bags, pairs = []int{1<<len(g) - 1}, nil
	}
	for range d.below(8) {
		at := d.below(len(bags))
		pairs = append(pairs, [2]int{at, len(bags)})
		bags = append(bags, bags[at]&d.below(1<<len(g)))
	}
	for range d.below(8) {
		if len(pairs) > 0 {
			p := pairs[d.below(len(pairs))]
			bags[p[0]] |= bags[p[1]] & d.below(1<<len(g))
		}
	}
	return rooted(bags, pairs, d)
}

// orderTree returns the bags of an order and the pairs of them that are beside each other.
func orderTree(g api.Graph, order []int) ([]int, [][2]int) {
	left := slices.Clone(g)
	bags := make([]int, len(order))
	var pairs [][2]int
	for i, v := range order {
		bags[i] = left[v] | setOf(v)
		next := slices.IndexFunc(order, func(u int) bool { return left[v]>>u&1 == 1 })
		if next == -1 && i+1 < len(order) {
			next = i + 1
		}
		if next != -1 {
			pairs = append(pairs, [2]int{i, next})
		}
		for _, a := range nodesOf(left[v]) {
			left[a] = (left[a] | left[v]) &^ setOf(a, v)
		}
		left[v] = 0
	}
	return bags, pairs
}

// rooted gives the bags other indices and makes any one of them the root.
func rooted(bags []int, pairs [][2]int, d *dice) tree {
	names := shuffled(len(bags), d)
	t := tree{Bags: make([]int, len(bags)), Parent: make([]int, len(bags))}
	for i, bag := range bags {
		t.Bags[names[i]] = bag
		t.Parent[i] = -2
	}
	root := d.below(len(bags))
	t.Parent[root] = -1
	list := []int{root}
	for i := 0; i < len(list); i++ {
		for _, p := range pairs {
			a, b := names[p[0]], names[p[1]]
			if a == list[i] && t.Parent[b] == -2 {
				t.Parent[b] = a
				list = append(list, b)
			}
			if b == list[i] && t.Parent[a] == -2 {
				t.Parent[a] = b
				list = append(list, a)
			}
		}
	}
	return t
}

func TestDecomposeExamples(t *testing.T) {
	for _, row := range []struct {
		g api.Graph
		t tree
		w int
	}{
		{path(3), tree{Bags: []int{3, 6}, Parent: []int{-1, 0}}, 1},
		{path(3), tree{Bags: []int{3, 6}, Parent: []int{1, -1}}, 1},
		{path(3), tree{Bags: []int{7}, Parent: []int{-1}}, 2},
		{path(3), tree{Bags: []int{0, 3, 6}, Parent: []int{-1, 2, 0}}, 1},
		{cycle(4), tree{Bags: []int{7, 13}, Parent: []int{-1, 0}}, 2},
		{apart(2), tree{Bags: []int{1, 2}, Parent: []int{-1, 0}}, 0},
		{apart(2), tree{Bags: []int{1, 0, 2}, Parent: []int{1, 2, -1}}, 0},
		{apart(2), tree{Bags: []int{2, 2, 1}, Parent: []int{1, -1, 1}}, 0},
		{apart(1), tree{Bags: []int{1}, Parent: []int{-1}}, 0},
	} {
		w, ok, e := width.Check(row.g, row.t)
		same(t, fmt.Sprint(row), w, row.w)
		same(t, fmt.Sprint(row), ok, true)
		same(t, fmt.Sprint(row), e, api.OK)
	}
}

// TestDecomposeAll is P2.2 and P2.9.
func TestDecomposeAll(t *testing.T) {
	for _, g := range manyGraphs() {
		want, _ := width.Width(g)
		d, e := width.Decompose(g)
		if e != api.OK || decomposes(g, d) != want {
			t.Fatal(g, d, e, want)
		}
		if w, ok, e := width.Check(g, d); w != want || !ok || e != api.OK {
			t.Fatal(g, d, w, ok, e)
		}
	}
}

// TestCheckOther: what is no tree decomposition is false, and no error.
func TestCheckOther(t *testing.T) {
	for name, x := range badTrees() {
		w, ok, e := width.Check(path(3), x)
		same(t, name, w, 0)
		same(t, name, ok, false)
		same(t, name, e, api.OK)
	}
}

// badTrees returns what is no tree decomposition of a path of three.
func badTrees() map[string]tree {
	return map[string]tree{
		"nil":                       {},
		"empty":                     {Bags: []int{}, Parent: []int{}},
		"no parents":                {Bags: []int{7}},
		"no bags":                   {Parent: []int{-1}},
		"too few parents":           {Bags: []int{3, 6}, Parent: []int{-1}},
		"too many parents":          {Bags: []int{7}, Parent: []int{-1, 0}},
		"31 bags":                   longTree(31, 7),
		"very many bags":            longTree(100000, 7),
		"two roots":                 {Bags: []int{3, 6}, Parent: []int{-1, -1}},
		"own parent":                {Bags: []int{7}, Parent: []int{0}},
		"own parent beside":         {Bags: []int{7, 7}, Parent: []int{-1, 1}},
		"no root":                   {Bags: []int{7, 7}, Parent: []int{1, 0}},
		"a cycle beside the root":   {Bags: []int{7, 7, 7}, Parent: []int{-1, 2, 1}},
		"a cycle of empty bags":     {Bags: []int{7, 0, 0}, Parent: []int{-1, 2, 1}},
		"a cycle with a tail":       {Bags: []int{7, 0, 0, 0}, Parent: []int{-1, 2, 1, 2}},
		"parent -2":                 {Bags: []int{7, 7}, Parent: []int{-1, -2}},
		"root -2":                   {Bags: []int{7}, Parent: []int{-2}},
		"parent beyond":             {Bags: []int{7, 7}, Parent: []int{-1, 2}},
		"greatest parent":           {Bags: []int{7, 7}, Parent: []int{-1, 1<<63 - 1}},
		"least parent":              {Bags: []int{7, 7}, Parent: []int{-1, -1 << 63}},
		"negative bag":              {Bags: []int{7, -1}, Parent: []int{-1, 0}},
		"least bag":                 {Bags: []int{7, -1 << 63}, Parent: []int{-1, 0}},
		"bag beyond":                {Bags: []int{15}, Parent: []int{-1}},
		"bag beyond alone":          {Bags: []int{7, 8}, Parent: []int{-1, 0}},
		"greatest bag":              {Bags: []int{1<<63 - 1}, Parent: []int{-1}},
		"a node left out":           {Bags: []int{3}, Parent: []int{-1}},
		"the first node left out":   {Bags: []int{6}, Parent: []int{-1}},
		"only empty":                {Bags: []int{0}, Parent: []int{-1}},
		"an edge left out":          {Bags: []int{3, 4}, Parent: []int{-1, 0}},
		"all edges left out":        {Bags: []int{1, 2, 4}, Parent: []int{-1, 0, 1}},
		"a node in two pieces":      {Bags: []int{3, 0, 6}, Parent: []int{-1, 0, 1}},
		"a node in two children":    {Bags: []int{0, 3, 6}, Parent: []int{-1, 0, 0}},
		"a node in two far leaves":  {Bags: []int{2, 3, 6, 5}, Parent: []int{-1, 0, 0, 0}},
		"a node in parent's parent": {Bags: []int{7, 2, 1}, Parent: []int{-1, 0, 1}},
	}
}

// longTree has n bags, each the child of the one before it.
func longTree(n, bag int) tree {
	var x tree
	for i := range n {
		x.Bags = append(x.Bags, bag)
		x.Parent = append(x.Parent, i-1)
	}
	return x
}

func TestCheckLimit(t *testing.T) {
	x := longTree(30, 7)
	slices.Reverse(x.Bags)
	w, ok, e := width.Check(path(3), x)
	same(t, "30 bags", w, 2)
	same(t, "30 bags", ok, true)
	same(t, "30 bags", e, api.OK)
}

// TestCheckMany compares with the definition, for trees that are decompositions, and
// for such in which something has been changed.
func TestCheckMany(t *testing.T) {
	d := dice(11)
	accepted, refused := 0, 0
	for _, g := range manyGraphs() {
		for range 6 {
			x := someTree(g, &d)
			if decomposes(g, x) == -1 {
				t.Fatal("the test makes no tree decomposition", g, x)
			}
			for range 4 {
				want := decomposes(g, x)
				w, ok, e := width.Check(g, x)
				if e != api.OK || ok != (want != -1) || w != max(0, want) {
					t.Fatal(g, x, w, ok, e, want)
				}
				if ok {
					accepted++
				} else {
					refused++
				}
				change(g, x, &d)
			}
		}
	}
	if accepted < 5000 || refused < 5000 {
		t.Error(accepted, refused)
	}
}

// change changes a bag or a parent.
func change(g api.Graph, x tree, d *dice) {
	i := d.below(len(x.Bags))
	if d.below(3) > 0 {
		x.Bags[i] ^= 1 << d.below(len(g))
	} else if x.Parent[i] != -1 {
		x.Parent[i] = d.below(len(x.Bags)+1) - 1
	}
}

// narrow checks what Narrow returns for a tree decomposition: P2.7 and P2.15.
func narrow(t *testing.T, g api.Graph, x tree) tree {
	t.Helper()
	before := cloneTree(x)
	n, e := width.Narrow(g, x)
	if e != api.OK || decomposes(g, n) == -1 || len(n.Bags) > len(g) {
		t.Fatal(g, x, n, e)
	}
	for i, a := range n.Bags {
		if !slices.Contains(x.Bags, a) {
			t.Fatal(g, x, n, "has another bag")
		}
		for j, b := range n.Bags {
			if i != j && a&b == a {
				t.Fatal(g, x, n, "has a bag in another one")
			}
		}
	}
	sameText(t, "argument", x, before)
	return n
}

func TestNarrowExamples(t *testing.T) {
	g := path(3)
	for _, row := range []struct{ from, want tree }{
		{tree{Bags: []int{7}, Parent: []int{-1}}, tree{Bags: []int{7}, Parent: []int{-1}}},
		{tree{Bags: []int{7, 3, 2}, Parent: []int{-1, 0, 1}}, tree{Bags: []int{7}, Parent: []int{-1}}},
		{tree{Bags: []int{2, 3, 7}, Parent: []int{-1, 0, 1}}, tree{Bags: []int{7}, Parent: []int{-1}}},
		{tree{Bags: []int{7, 7, 7}, Parent: []int{1, 2, -1}}, tree{Bags: []int{7}, Parent: []int{-1}}},
		{longTree(30, 7), tree{Bags: []int{7}, Parent: []int{-1}}},
	} {
		sameText(t, fmt.Sprint(row.from), narrow(t, g, row.from), row.want)
	}
	for _, from := range []tree{
		{Bags: []int{3, 6}, Parent: []int{-1, 0}},
		{Bags: []int{2, 3, 6}, Parent: []int{-1, 0, 0}},
		{Bags: []int{1, 3, 2, 6, 4}, Parent: []int{-1, 0, 1, 2, 3}},
		{Bags: []int{0, 1, 3, 2, 6, 4, 0}, Parent: []int{1, 2, 3, 4, 5, 6, -1}},
	} {
		same(t, fmt.Sprint(from), len(narrow(t, g, from).Bags), 2)
	}
	same(t, "apart", len(narrow(t, apart(9), tree{Bags: []int{0, 1, 2, 4, 8, 16, 32, 64, 128, 256}, Parent: []int{-1, 0, 0, 0, 0, 0, 0, 0, 0, 0}}).Bags), 9)
}

// TestNarrowMany is P2.7, P2.13 and P2.15.
func TestNarrowMany(t *testing.T) {
	d := dice(12)
	for _, g := range manyGraphs() {
		for range 6 {
			x := someTree(g, &d)
			n := narrow(t, g, x)
			narrow(t, g, n)
			for _, y := range []tree{x, n} {
				if bad := cliqueWithoutBag(g, y); bad != 0 {
					t.Fatal(g, y, bad)
				}
			}
		}
		x, _ := width.Decompose(g)
		narrow(t, g, x)
	}
}

// cliqueWithoutBag returns a set of neighbours of each other that is in no bag, or 0.
func cliqueWithoutBag(g api.Graph, x tree) int {
	for set := 1; set < 1<<len(g); set++ {
		clique := true
		for _, v := range nodesOf(set) {
			clique = clique && set&^g[v] == setOf(v)
		}
		if clique && !slices.ContainsFunc(x.Bags, func(bag int) bool { return set&bag == set }) {
			return set
		}
	}
	return 0
}

func TestNarrowErrors(t *testing.T) {
	for name, x := range badTrees() {
		n, e := width.Narrow(path(3), x)
		sameText(t, name, n, tree{})
		same(t, name, e, api.ErrArg)
	}
}

// TestNarrowNew: the result shares no memory with the argument, also if it is the same.
func TestNarrowNew(t *testing.T) {
	for _, x := range []tree{{Bags: []int{3, 6}, Parent: []int{-1, 0}}, {Bags: []int{3, 2, 6}, Parent: []int{-1, 0, 1}}} {
		before := cloneTree(x)
		n, _ := width.Narrow(path(3), x)
		for i := range n.Bags {
			n.Bags[i], n.Parent[i] = -5, -5
		}
		_ = append(n.Bags, -6)
		_ = append(n.Parent, -6)
		sameText(t, "argument", x, before)
	}
}

func TestDivideExamples(t *testing.T) {
	for _, row := range []struct {
		g    api.Graph
		want int
	}{
		{apart(1), 1}, {apart(2), 0}, {apart(5), 0}, {path(2), 1}, {path(3), 2}, {path(9), 16}, {star(5), 1}, {cycle(3), 3}, {cycle(4), 3},
		{cycle(5), 5}, {complete(4), 3}, {complete(9), 31}, {beside(complete(4), complete(4)), 0}, {beside(complete(4), complete(5)), 16},
		{sides(3, 3), 7}, {grid(3), 28},
	} {
		set, e := width.Divide(row.g)
		same(t, fmt.Sprint(row.g), set, row.want)
		same(t, fmt.Sprint(row.g), e, api.OK)
	}
}

// TestDivideAll is P2.6 and P2.12.
func TestDivideAll(t *testing.T) {
	for _, g := range manyGraphs() {
		var large []int // the connected sets with more than half of the nodes
		for set := range 1 << len(g) {
			if l := nodesOf(set); 2*len(l) > len(g) && joined(g, l) {
				large = append(large, set)
			}
		}
		best := 1<<len(g) - 1
		for set := best; set >= 0; set-- {
			meets := !slices.ContainsFunc(large, func(l int) bool { return l&set == 0 })
			if meets && bits.OnesCount(uint(set)) <= bits.OnesCount(uint(best)) {
				best = set
			}
		}
		w, _ := width.Width(g)
		if set, e := width.Divide(g); set != best || e != api.OK || bits.OnesCount(uint(set)) > w+1 {
			t.Fatal(g, set, e, best, w)
		}
	}
}
