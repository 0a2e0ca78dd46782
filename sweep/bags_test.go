package sweep_test

import (
	"fmt"
	"slices"
	"testing"

	"lampblack/api"
	"lampblack/sweep"
	"lampblack/width"
)

// isDecomposition goes by the definition.
func isDecomposition(g api.Graph, bags []int) bool {
	if len(bags) < 1 || len(bags) > 30 {
		return false
	}
	for _, bag := range bags {
		if bag < 0 || bag >= 1<<len(g) {
			return false
		}
	}
	for v := range g {
		var with []int // the indices of the bags that have v
		for i, bag := range bags {
			if bag>>v&1 == 1 {
				with = append(with, i)
			}
		}
		if len(with) == 0 || with[len(with)-1]-with[0] != len(with)-1 {
			return false
		}
		for u := range g {
			meet := func(bag int) bool { return bag&setOf(u, v) == setOf(u, v) }
			if near(g, u, v) && !slices.ContainsFunc(bags, meet) {
				return false
			}
		}
	}
	return true
}

func widthOf(bags []int) int {
	most := 0
	for _, bag := range bags {
		most = max(most, len(nodesOf(bag)))
	}
	return most - 1
}

func TestBagsExamples(t *testing.T) {
	table := []struct {
		g            api.Graph
		layout, want []int
	}{
		{path(3), []int{0, 1, 2}, []int{1, 3, 6}},
		{path(3), []int{2, 1, 0}, []int{4, 6, 3}},
		{path(3), []int{0, 2, 1}, []int{1, 5, 7}},
		{path(3), []int{1, 0, 2}, []int{2, 3, 6}},
		{cycle(4), []int{0, 1, 2, 3}, []int{1, 3, 7, 13}},
		{star(4), []int{1, 2, 3, 0}, []int{2, 6, 14, 15}},
		{apart(3), []int{2, 0, 1}, []int{4, 1, 2}},
		{apart(1), []int{0}, []int{1}},
	}
	for _, row := range table {
		l, e := sweep.Bags(row.g, row.layout)
		sameText(t, fmt.Sprint(row), l, row.want)
		same(t, fmt.Sprint(row), e, api.OK)
	}
	for _, l := range badLayouts() {
		what := fmt.Sprint(len(l), " from ", l[:min(4, len(l))])
		bags, e := sweep.Bags(path(3), l)
		sameText(t, what, bags, []int{})
		same(t, what, e, api.ErrArg)
	}
}

// TestBagsAll is P3.2 and P3.9.
func TestBagsAll(t *testing.T) {
	d := dice(9)
	for _, g := range manyGraphs() {
		for range 10 {
			layout := shuffled(len(g), &d)
			var want []int
			for i, v := range layout {
				want = append(want, setOf(borderOf(g, layout[:i])...)|setOf(v))
			}
			bags, e := sweep.Bags(g, layout)
			if !slices.Equal(bags, want) || e != api.OK || !isDecomposition(g, bags) {
				t.Fatal(g, layout, bags, e, want)
			}
			breadth, _ := sweep.Breadth(g, layout)
			if n, ok, e := sweep.Check(g, bags); n != breadth || !ok || e != api.OK {
				t.Fatal(g, layout, bags, n, ok, e, breadth)
			}
		}
	}
}

func TestCheckExamples(t *testing.T) {
	thirty := slices.Concat(slices.Repeat([]int{3}, 15), slices.Repeat([]int{6}, 15))
	table := []struct {
		name string
		bags []int
		want int // -1: it is no path decomposition of a path of three
	}{
		{"of a layout", []int{1, 3, 6}, 1},
		{"two bags", []int{3, 6}, 1},
		{"backward", []int{6, 3}, 1},
		{"one bag", []int{7}, 2},
		{"the same bag twice", []int{3, 3, 6}, 1},
		{"all and parts", []int{1, 7, 4}, 2},
		{"empty bags outside", []int{0, 3, 6, 0, 0}, 1},
		{"thirty", thirty, 1},
		{"nil", nil, -1},
		{"empty", []int{}, -1},
		{"only an empty bag", []int{0}, -1},
		{"an empty bag between", []int{3, 0, 6}, -1},
		{"thirty-one", append(slices.Clone(thirty), 6), -1},
		{"very many", slices.Repeat([]int{7}, 1000000), -1},
		{"a node in no bag", []int{3}, -1},
		{"the first node in no bag", []int{6}, -1},
		{"neighbours in no bag", []int{3, 4}, -1},
		{"neighbours in no bag, beside", []int{1, 2, 4}, -1},
		{"a node that comes again", []int{3, 6, 1}, -1},
		{"a node that is away", []int{3, 5, 6}, -1},
		{"three with a gap", []int{3, 4, 6}, -1},
		{"negative", []int{-1}, -1},
		{"negative at last", []int{3, 6, -1}, -1},
		{"least", []int{3, 6, -1 << 63}, -1},
		{"beyond", []int{3, 6, 8}, -1},
		{"beyond with all", []int{15}, -1},
		{"greatest", []int{1<<63 - 1}, -1},
		{"far beyond", []int{7 | 1<<62}, -1},
	}
	for _, row := range table {
		n, ok, e := sweep.Check(path(3), row.bags)
		same(t, row.name, n, max(row.want, 0))
		same(t, row.name, ok, row.want >= 0)
		same(t, row.name, e, api.OK)
		plan, e := sweep.Follow(path(3), row.bags)
		if row.want < 0 {
			sameText(t, row.name, plan, []int{})
			same(t, row.name, e, api.ErrArg)
		} else {
			same(t, row.name, len(plan), 6)
			same(t, row.name, e, api.OK)
		}
	}
	n, ok, e := sweep.Check(apart(1), []int{1})
	same(t, "one node", n, 0)
	same(t, "one node", ok, true)
	same(t, "one node", e, api.OK)
}

// someBags returns bags of a layout, some of them made greater or put in once more.
func someBags(g api.Graph, d *dice) []int {
	bags, _ := sweep.Bags(g, shuffled(len(g), d))
	for range d.below(4) {
		i := d.below(len(bags))
		bags = slices.Insert(bags, i, bags[i])
	}
	for range d.below(3) {
		if i := d.below(len(bags)); i > 0 {
			bags[i] |= bags[i-1]
		}
	}
	return bags
}

// TestCheckMany compares with the definition, and is P3.10, the chain of the bags, and
// P3.12.
func TestCheckMany(t *testing.T) {
	d := dice(77)
	accepted, refused := 0, 0
	for _, g := range manyGraphs() {
		for range 10 {
			bags := someBags(g, &d)
			for range 3 {
				want := isDecomposition(g, bags)
				n, ok, e := sweep.Check(g, bags)
				if ok != want || e != api.OK || ok && n != widthOf(bags) || !ok && n != 0 {
					t.Fatal(g, bags, n, ok, e)
				}
				chain := width.Tree{Bags: bags}
				for i := range bags {
					chain.Parent = append(chain.Parent, i-1)
				}
				if m, is, e := width.Check(g, chain); m != n || is != ok || e != api.OK {
					t.Fatal(g, bags, n, ok, m, is, e)
				}
				backward := slices.Clone(bags)
				slices.Reverse(backward)
				if m, is, e := sweep.Check(g, backward); m != n || is != ok || e != api.OK {
					t.Fatal(g, bags, n, ok, m, is, e)
				}
				if ok {
					accepted++
				} else {
					refused++
				}
				bags[d.below(len(bags))] ^= 1 << d.below(len(g))
			}
		}
	}
	if accepted < 10000 || refused < 5000 {
		t.Error(accepted, refused)
	}
}
