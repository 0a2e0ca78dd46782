package width_test

import (
	"fmt"
	"math/bits"
	"slices"
	"testing"

	"lampblack/api"
	"lampblack/width"
)

// touches goes by the definition.
func touches(g api.Graph, a, b int) bool {
	for _, v := range nodesOf(a) {
		for _, u := range nodesOf(b) {
			if v == u || near(g, v, u) {
				return true
			}
		}
	}
	return false
}

func isBramble(g api.Graph, l []int) bool {
	for i, a := range l {
		if a < 0 || a >= 1<<len(g) || !joined(g, nodesOf(a)) {
			return false
		}
		for _, b := range l[:i] {
			if !touches(g, a, b) {
				return false
			}
		}
	}
	return len(l) > 0 && len(l) <= 200
}

// covered returns the least cover with the fewest nodes.
func covered(g api.Graph, l []int) int {
	best := 1<<len(g) - 1
	for set := best; set >= 0; set-- {
		meets := !slices.ContainsFunc(l, func(b int) bool { return b&set == 0 })
		if meets && bits.OnesCount(uint(set)) <= bits.OnesCount(uint(best)) {
			best = set
		}
	}
	return best
}

func TestBrambleExamples(t *testing.T) {
	table := []struct {
		g     api.Graph
		l     []int
		order int
		cover int
	}{
		{path(3), []int{1, 2}, 2, 3},
		{path(3), []int{2, 1}, 2, 3},
		{path(3), []int{7}, 1, 1},
		{path(3), []int{2, 4, 6, 4}, 2, 6},
		{path(3), []int{3, 6}, 1, 2},
		{cycle(4), []int{1, 2, 12}, 3, 7},
		{cycle(4), []int{3, 6, 12, 9}, 2, 5},
		{complete(4), []int{1, 2, 4, 8}, 4, 15},
		{apart(5), []int{4}, 1, 4},
		{apart(5), []int{16, 16}, 1, 16},
		{apart(1), []int{1}, 1, 1},
	}
	for _, row := range table {
		what := fmt.Sprint(row.g, row.l)
		n, ok, e := width.CheckBramble(row.g, row.l)
		same(t, what, n, row.order)
		same(t, what, ok, true)
		same(t, what, e, api.OK)
		set, e := width.Cover(row.g, row.l)
		same(t, what, set, row.cover)
		same(t, what, e, api.OK)
	}
}

// TestBrambleAll is P2.3 and P2.9.
func TestBrambleAll(t *testing.T) {
	graphs := manyGraphs()
	for n := 7; n <= 9; n++ {
		graphs = append(graphs, someGraphs(n, 150)...)
	}
	for _, g := range graphs {
		w, _ := width.Width(g)
		l, e := width.Bramble(g)
		if e != api.OK || !isBramble(g, l) || bits.OnesCount(uint(covered(g, l))) != w+1 {
			t.Fatal(g, l, e, w)
		}
		if n, ok, e := width.CheckBramble(g, l); n != w+1 || !ok || e != api.OK {
			t.Fatal(g, l, n, ok, e, w)
		}
	}
}

// badBrambles returns what is no bramble of a path of four.
func badBrambles() map[string][]int {
	return map[string][]int{
		"nil":               nil,
		"empty":             {},
		"the empty set":     {0},
		"an empty set":      {1, 0},
		"not connected":     {5},
		"one not connected": {15, 9},
		"not touching":      {1, 4},
		"far apart":         {1, 8},
		"two of three":      {3, 6, 8},
		"first and last":    {1, 3, 15, 12},
		"negative":          {-1},
		"one negative":      {1, -1},
		"least":             {-1 << 63},
		"beyond":            {16},
		"beyond by one":     {1, 31},
		"greatest":          {1<<63 - 1},
		"201 sets":          slices.Repeat([]int{3}, 201),
		"very many sets":    slices.Repeat([]int{3}, 1000000),
	}
}

// TestCheckBrambleOther: what is no bramble is false, and no error; for Cover it is one.
func TestCheckBrambleOther(t *testing.T) {
	for name, l := range badBrambles() {
		n, ok, e := width.CheckBramble(path(4), l)
		same(t, name, n, 0)
		same(t, name, ok, false)
		same(t, name, e, api.OK)
		set, e := width.Cover(path(4), l)
		same(t, name, set, 0)
		same(t, name, e, api.ErrArg)
	}
}

func TestCheckBrambleLimit(t *testing.T) {
	l := append(slices.Repeat([]int{3}, 199), 12)
	n, ok, e := width.CheckBramble(path(4), l)
	same(t, "200 sets", n, 2)
	same(t, "200 sets", ok, true)
	same(t, "200 sets", e, api.OK)
	set, e := width.Cover(path(4), l)
	same(t, "200 sets", set, 5)
	same(t, "200 sets", e, api.OK)
}

// TestCheckBrambleMany compares with the definitions; no order is above the width and 1
// (P2.9), whatever the bramble.
func TestCheckBrambleMany(t *testing.T) {
	d := dice(21)
	accepted, refused := 0, 0
	for _, g := range manyGraphs() {
		w, _ := width.Width(g)
		for range 6 {
			l := someBramble(g, &d)
			for range 2 {
				want := isBramble(g, l)
				n, ok, e := width.CheckBramble(g, l)
				if ok != want || e != api.OK || !ok && n != 0 || ok && (n != bits.OnesCount(uint(covered(g, l))) || n > w+1) {
					t.Fatal(g, l, n, ok, e, w)
				}
				set, e := width.Cover(g, l)
				if ok && (set != covered(g, l) || e != api.OK) || !ok && (set != 0 || e != api.ErrArg) {
					t.Fatal(g, l, set, e)
				}
				if ok {
					accepted++
				} else {
					refused++
				}
				l[d.below(len(l))] ^= 1 << d.below(len(g))
			}
		}
	}
	if accepted < 5000 || refused < 1000 {
		t.Error(accepted, refused)
	}
}

// someBramble returns connected sets that touch, as far as any are found.
func someBramble(g api.Graph, d *dice) []int {
	l := []int{setOf(d.below(len(g)))}
	for range 25 {
		set := setOf(d.below(len(g)))
		for range d.below(3) {
			set |= setOf(d.below(len(g)))
		}
		if isBramble(g, append(slices.Clone(l), set)) {
			l = append(l, set)
		}
	}
	return l
}

func TestTouchExamples(t *testing.T) {
	g := path(4)
	for _, row := range []struct {
		a, b int
		want bool
	}{
		{1, 1, true}, {1, 2, true}, {2, 1, true}, {1, 4, false}, {1, 6, true}, {3, 6, true}, {3, 8, false}, {8, 3, false}, {15, 8, true}, {7, 8, true},
	} {
		ok, e := width.Touch(g, row.a, row.b)
		same(t, fmt.Sprint(row), ok, row.want)
		same(t, fmt.Sprint(row), e, api.OK)
	}
	for _, bad := range []int{0, 5, 9, 10, 11, 13, -1, 16, 17, 1 << 62, -1 << 63, 1<<63 - 1} {
		for _, good := range []int{1, 15, bad} {
			ok, e := width.Touch(g, bad, good)
			same(t, fmt.Sprint(bad, good), ok, false)
			same(t, fmt.Sprint(bad, good), e, api.ErrArg)
			ok, e = width.Touch(g, good, bad)
			same(t, fmt.Sprint(good, bad), ok, false)
			same(t, fmt.Sprint(good, bad), e, api.ErrArg)
		}
	}
}

func TestTouchAll(t *testing.T) {
	graphs := append(allGraphs(3), allGraphs(4)...)
	graphs = append(graphs, someGraphs(6, 10)...)
	for _, g := range graphs {
		for a := range 1 << len(g) {
			for b := range 1 << len(g) {
				valid := joined(g, nodesOf(a)) && joined(g, nodesOf(b))
				ok, e := width.Touch(g, a, b)
				if (e == api.OK) != valid || !valid && e != api.ErrArg || ok != (valid && touches(g, a, b)) {
					t.Fatal(g, a, b, ok, e)
				}
			}
		}
	}
}
