package sweep_test

import (
	"fmt"
	"slices"
	"testing"

	"lampblack/api"
	"lampblack/sweep"
)

// borders returns the border of each set, by the definition.
func borders(g api.Graph) []int {
	var list []int
	for set := range 1 << len(g) {
		list = append(list, setOf(borderOf(g, nodesOf(set))...))
	}
	return list
}

// isBlockage goes by the definition; border is that of each set.
func isBlockage(border []int, k int, l []int) bool {
	size := func(set int) int { return len(nodesOf(set)) }
	in := map[int]bool{}
	for i, set := range l {
		if set < 0 || set >= len(border) || size(border[set]) > k || i > 0 && set <= l[i-1] {
			return false
		}
		in[set] = true
	}
	all := len(border) - 1
	for x := range border {
		for y := range border {
			isPart := x&y == y
			if isPart && in[x] && !in[y] && size(border[y]) <= k {
				return false
			}
			isPair := x|y == all && border[x]&y == border[x] && size(x&y) <= k
			if isPair && (x == y || in[x] == in[y]) {
				return false
			}
		}
	}
	return true
}

func TestBlockageExamples(t *testing.T) {
	table := []struct {
		name string
		g    api.Graph
		k    int
		l    []int // all blockages of the order have these sets
	}{
		{"one node", apart(1), 0, []int{0}},
		{"a path of two, order 0", path(2), 0, []int{0}},
		{"a path of two", path(2), 1, []int{0, 1, 2}},
		{"three neighbours, order 1", complete(3), 1, []int{0, 1, 2, 4}},
		{"three neighbours", complete(3), 2, []int{0, 1, 2, 3, 4, 5, 6}},
	}
	for _, row := range table {
		l, e := sweep.Blockage(row.g, row.k)
		sameText(t, row.name, l, row.l)
		same(t, row.name, e, api.OK)
		ok, e := sweep.CheckBlockage(row.g, row.k, row.l)
		same(t, row.name, ok, true)
		same(t, row.name, e, api.OK)
	}
	for _, l := range [][]int{{0, 1}, {0, 2}} {
		ok, e := sweep.CheckBlockage(apart(2), 0, l)
		same(t, fmt.Sprint("two apart ", l), ok, true)
		same(t, fmt.Sprint("two apart ", l), e, api.OK)
	}
}

// TestBlockageAll is P3.5 and P3.8: for each order there is a blockage, or the path width
// is less.
func TestBlockageAll(t *testing.T) {
	for _, g := range manyGraphs() {
		border := borders(g)
		_, w, _ := sweep.Layout(g)
		for k := 0; k <= 7; k++ {
			l, e := sweep.Blockage(g, k)
			if w < k {
				if len(l) > 0 || e != api.ErrNone {
					t.Fatal(g, k, l, e)
				}
				continue
			}
			if e != api.OK || !isBlockage(border, k, l) {
				t.Fatal(g, k, l, e)
			}
			if ok, e := sweep.CheckBlockage(g, k, l); !ok || e != api.OK {
				t.Fatal(g, k, l, ok, e)
			}
		}
	}
}

// subsets returns all slices, rising, of sets of n nodes.
func subsets(n int) [][]int {
	list := [][]int{{}}
	for set := range 1 << n {
		for _, l := range list {
			list = append(list, append(slices.Clone(l), set))
		}
	}
	return list
}

// TestBlockageEvery is P3.8 by trying everything: where the path width is less than the
// order no slice at all is a blockage, and what is accepted stops all plans.
func TestBlockageEvery(t *testing.T) {
	graphs := slices.Concat(allGraphs(1), allGraphs(2), allGraphs(3))
	for _, g := range append(graphs, path(4), cycle(4), beside(path(2), path(2)), star(4)) {
		border := borders(g)
		_, w, _ := sweep.Layout(g)
		candidates := subsets(len(g))
		for k := 0; k <= min(len(g), w+2); k++ {
			accepted := 0
			for _, l := range candidates {
				ok, e := sweep.CheckBlockage(g, k, l)
				if e != api.OK || ok != isBlockage(border, k, l) {
					t.Fatal(g, k, l, ok, e)
				}
				if ok {
					accepted++
				}
			}
			if (accepted > 0) != (w >= k) || accepted > 0 && canClear(g, k) {
				t.Fatal(g, k, accepted)
			}
		}
	}
}

// changed returns a slice in which one set is added, taken away or exchanged.
func changed(l []int, sets int, d *dice) []int {
	l = slices.Clone(l)
	if d.below(3) > 0 {
		if set := d.below(sets); !slices.Contains(l, set) {
			l = append(l, set)
		}
	}
	if d.below(3) > 0 {
		i := d.below(len(l))
		l = slices.Delete(l, i, i+1)
	}
	slices.Sort(l)
	return l
}

// TestCheckBlockageMany compares with the definition.
func TestCheckBlockageMany(t *testing.T) {
	d := dice(12)
	accepted, refused := 0, 0
	for _, g := range manyGraphs() {
		border := borders(g)
		_, w, _ := sweep.Layout(g)
		for k := 0; k <= w; k++ {
			l, _ := sweep.Blockage(g, k)
			for range 3 {
				l = changed(l, len(border), &d)
				if len(l) == 0 {
					break
				}
				for order := max(k-1, 0); order <= min(k+1, 7); order++ {
					ok, e := sweep.CheckBlockage(g, order, l)
					if e != api.OK || ok != isBlockage(border, order, l) {
						t.Fatal(g, order, l, ok, e)
					}
					if ok {
						accepted++
					} else {
						refused++
					}
				}
			}
		}
	}
	if accepted < 100 || refused < 10000 {
		t.Error(accepted, refused)
	}
}

// TestCheckBlockageOther: what is no blockage is false, and no error.
func TestCheckBlockageOther(t *testing.T) {
	table := []struct {
		name string
		k    int
		l    []int
	}{
		{"nil", 1, nil},
		{"empty", 1, []int{}},
		{"the empty set alone", 1, []int{0}},
		{"without the empty set", 1, []int{1, 2}},
		{"not rising", 1, []int{0, 2, 1}},
		{"one set twice", 1, []int{0, 1, 1, 2}},
		{"the last set twice", 1, []int{0, 1, 2, 2}},
		{"all of them", 1, []int{0, 1, 2, 3}},
		{"the whole instead of a part", 1, []int{0, 1, 3}},
		{"only one part", 1, []int{0, 1}},
		{"negative", 1, []int{-1, 0, 1, 2}},
		{"least", 1, []int{-1 << 63, 0, 1, 2}},
		{"beyond", 1, []int{0, 1, 2, 4}},
		{"greatest", 1, []int{0, 1, 2, 1<<63 - 1}},
		{"of another order", 0, []int{0, 1, 2}},
		{"the whole of order 0", 0, []int{0, 3}},
		{"only the whole of order 0", 0, []int{3}},
		{"too many nodes", 2, []int{0, 1, 2}},
		{"many too many", 7, []int{0, 1, 2}},
		{"very many", 1, make([]int, 1000000)},
	}
	for _, row := range table {
		ok, e := sweep.CheckBlockage(path(2), row.k, row.l)
		same(t, row.name, ok, false)
		same(t, row.name, e, api.OK)
	}
}

func TestBlockageErrors(t *testing.T) {
	for _, k := range []int{-1, 8, 9, 64, -64, 1 << 62, -1 << 63, 1<<63 - 1} {
		l, e := sweep.Blockage(complete(7), k)
		sameText(t, fmt.Sprint(k), l, []int{})
		same(t, fmt.Sprint(k), e, api.ErrArg)
		ok, e := sweep.CheckBlockage(complete(7), k, []int{0})
		same(t, fmt.Sprint(k), ok, false)
		same(t, fmt.Sprint(k), e, api.ErrArg)
	}
	l, e := sweep.Blockage(complete(7), 7)
	sameText(t, "seven", l, []int{})
	same(t, "seven", e, api.ErrNone)
	l, e = sweep.Blockage(complete(7), 6)
	same(t, "six", len(l), 127)
	same(t, "six", e, api.OK)
}
