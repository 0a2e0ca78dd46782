package ears_test

import (
	"fmt"
	"slices"
	"testing"

	"lampblack/api"
	"lampblack/ears"
)

type ear = ears.Ear

// areEars goes by the definition of ears that take a graph together.
func areEars(g api.Graph, l []ear) bool {
	isNode := func(v int) bool { return v >= 0 && v < len(g) }
	uses := map[[2]int]int{}
	earlier := map[int]bool{}
	for i, e := range l {
		for j, v := range e {
			if !isNode(v) || j > 0 && !near(g, e[j-1], v) {
				return false
			}
			if j > 0 {
				uses[[2]int{min(e[j-1], v), max(e[j-1], v)}]++
			}
		}
		right := isEarLater(e, earlier)
		if i == 0 {
			right = isCycle(e)
		}
		if !right {
			return false
		}
		for _, v := range e {
			earlier[v] = true
		}
	}
	for _, p := range edgesOf(g) {
		if uses[p] != 1 {
			return false
		}
	}
	return len(l) > 0 && len(earlier) == len(g)
}

func areDifferent(l []int) bool {
	for i, v := range l {
		if slices.Contains(l[:i], v) {
			return false
		}
	}
	return true
}

func isCycle(e ear) bool {
	return len(e) >= 4 && e[0] == e[len(e)-1] && areDifferent(e[1:])
}

func isEarLater(e ear, earlier map[int]bool) bool {
	if len(e) < 2 || !areDifferent(e) {
		return false
	}
	for i, v := range e {
		if isEnd := i == 0 || i == len(e)-1; earlier[v] != isEnd {
			return false
		}
	}
	return true
}

func TestEarsExamples(t *testing.T) {
	isCycleOf := func(l []ear, nodes int) bool { return len(l) == 1 && isCycle(l[0]) && len(l[0]) == nodes+1 }
	for n := 3; n <= 10; n++ {
		l, e := ears.Ears(cycle(n))
		same(t, fmt.Sprint(l), isCycleOf(l, n), true)
		same(t, fmt.Sprint(l), e, api.OK)
	}
	table := map[string]api.Graph{
		"two triangles": {6, 5, 27, 20, 12}, "path": path(3), "one node": apart(1), "two nodes": path(2), "two apart": apart(2), "three apart": apart(3),
		"a cycle and a node": beside(cycle(4), apart(1)), "a node and a cycle": beside(apart(1), cycle(9)), "two cycles": beside(cycle(5), cycle(5)),
		"star": star(10), "path of ten": path(10), "chain": chain(4),
	}
	for name, g := range table {
		l, e := ears.Ears(g)
		same(t, name, len(l), 0)
		same(t, name, e, api.ErrState)
	}
}

func TestCheckEarsExamples(t *testing.T) {
	square := edges(4, [2]int{0, 1}, [2]int{0, 2}, [2]int{0, 3}, [2]int{1, 2}, [2]int{2, 3}) // a cycle of four and 0 2
	long := make(ear, 1000000)
	table := []struct {
		name string
		g    api.Graph
		l    []ear
		want bool
	}{
		{"cycle", cycle(4), []ear{{0, 1, 2, 3, 0}}, true},
		{"cycle from elsewhere", cycle(4), []ear{{2, 1, 0, 3, 2}}, true},
		{"triangle", cycle(3), []ear{{0, 1, 2, 0}}, true},
		{"a cycle and an edge", square, []ear{{0, 1, 2, 3, 0}, {0, 2}}, true},
		{"a triangle and a way", square, []ear{{0, 1, 2, 0}, {0, 3, 2}}, true},
		{"backward", square, []ear{{2, 1, 0, 2}, {2, 3, 0}}, true},
		{"ends that are one", square, []ear{{0, 1, 2, 0}, {0, 3, 0}}, false},
		{"two cycles", square, []ear{{0, 1, 2, 0}, {0, 2, 3, 0}}, false},
		{"an edge twice", square, []ear{{0, 1, 2, 3, 0}, {0, 2}, {0, 2}}, false},
		{"an edge twice, backward", square, []ear{{0, 1, 2, 3, 0}, {0, 2}, {2, 0}}, false},
		{"an edge of the cycle again", square, []ear{{0, 1, 2, 3, 0}, {0, 2}, {0, 1}}, false},
		{"an edge in no ear", square, []ear{{0, 1, 2, 3, 0}}, false},
		{"nodes in no ear", square, []ear{{0, 1, 2, 0}}, false},
		{"a way first", square, []ear{{0, 3, 2}, {0, 1, 2, 0}}, false},
		{"an edge first", square, []ear{{0, 2}, {0, 1, 2, 3, 0}}, false},
		{"a cycle that is open", cycle(4), []ear{{0, 1, 2, 3}}, false},
		{"a cycle in two", cycle(4), []ear{{0, 1, 2}, {2, 3, 0}}, false},
		{"a cycle of two", path(2), []ear{{0, 1, 0}}, false},
		{"a cycle of one", apart(1), []ear{{0, 0}}, false},
		{"one node", apart(1), []ear{{0}}, false},
		{"no ear, one node", apart(1), nil, false},
		{"no ear", cycle(3), nil, false},
		{"an empty ear", cycle(3), []ear{{}}, false},
		{"a nil ear", cycle(3), []ear{nil}, false},
		{"an empty ear more", cycle(3), []ear{{0, 1, 2, 0}, {}}, false},
		{"a nil ear more", cycle(3), []ear{{0, 1, 2, 0}, nil}, false},
		{"a node more", cycle(3), []ear{{0, 1, 2, 0}, {0}}, false},
		{"a node twice more", cycle(3), []ear{{0, 1, 2, 0}, {1, 1}}, false},
		{"gone around twice", cycle(3), []ear{{0, 1, 2, 0, 1, 2, 0}}, false},
		{"an eight", chain(2), []ear{{2, 0, 1, 2, 3, 4, 2}}, false},
		{"two triangles", chain(2), []ear{{0, 1, 2, 0}, {2, 3, 4, 2}}, false},
		{"a cycle and a node", beside(cycle(3), apart(1)), []ear{{0, 1, 2, 0}}, false},
		{"a cycle, and an edge beside", beside(cycle(3), path(2)), []ear{{0, 1, 2, 0}, {3, 4}}, false},
		{"a cycle and a leaf", edges(4, [2]int{0, 1}, [2]int{0, 2}, [2]int{1, 2}, [2]int{2, 3}), []ear{{0, 1, 2, 0}, {2, 3}}, false},
		{"no neighbours", cycle(4), []ear{{0, 2, 1, 3, 0}}, false},
		{"no neighbours more", cycle(4), []ear{{0, 1, 2, 3, 0}, {0, 2}}, false},
		{"negative", cycle(3), []ear{{0, 1, 2, 0}, {0, -1}}, false},
		{"negative first", cycle(3), []ear{{-1, 0, 1, -1}}, false},
		{"beyond", cycle(3), []ear{{0, 1, 3, 0}}, false},
		{"far beyond", cycle(3), []ear{{64, 65, 66, 64}}, false},
		{"least", cycle(3), []ear{{-1 << 63, 1, 2, -1 << 63}}, false},
		{"greatest", cycle(3), []ear{{1<<63 - 1, 1, 2, 1<<63 - 1}}, false},
		{"very long", cycle(3), []ear{long}, false},
		{"very many", cycle(3), make([]ear, 1000000), false},
		{"a way through an earlier node", complete(4), []ear{{0, 1, 2, 0}, {0, 3, 2}, {1, 3}}, true},
		{"an inner node seen before", complete(4), []ear{{0, 1, 2, 3, 0}, {0, 2}, {1, 3}}, true},
		{"an ear over an earlier node", wheel(5), []ear{{1, 2, 3, 4, 1}, {1, 0, 3}, {2, 0, 4}}, false},
		{"two ears to an earlier node", wheel(5), []ear{{1, 2, 3, 4, 1}, {1, 0, 3}, {2, 0}, {0, 4}}, true},
		{"an ear that crosses itself", complete(5), []ear{{0, 1, 2, 0}, {0, 3, 4, 1, 3, 2}, {0, 4}, {2, 4}}, false},
	}
	for _, row := range table {
		same(t, row.name+" by the definition", areEars(row.g, row.l), row.want)
		ok, e := ears.CheckEars(row.g, row.l)
		same(t, row.name, ok, row.want)
		same(t, row.name, e, api.OK)
	}
}

// TestEarsMany is P4.3, P4.9 of ears, and P4.13.
func TestEarsMany(t *testing.T) {
	for _, g := range manyGraphs() {
		l, e := ears.Ears(g)
		if !isDouble(g) {
			if len(l) != 0 || e != api.ErrState {
				t.Fatal(g, l, e)
			}
			continue
		}
		if e != api.OK || !areEars(g, l) || len(l) != len(edgesOf(g))-len(g)+1 {
			t.Fatal(g, l, e)
		}
		if ok, e := ears.CheckEars(g, l); !ok || e != api.OK {
			t.Fatal(g, l, ok, e)
		}
	}
}

// changed returns ears of which one thing or another is changed: most of them no longer
// take the graph together, but some do.
func changed(l []ear, n int, d *dice) []ear {
	list := make([]ear, len(l))
	for i := range l {
		list[i] = slices.Clone(l[i])
	}
	i, j := d.below(len(list)), d.below(len(list))
	e := list[i]
	at := d.below(len(e))
	switch d.below(10) {
	case 0:
		list = slices.Delete(list, i, i+1)
	case 1:
		list = append(list, e)
	case 2:
		list[i], list[j] = list[j], list[i]
	case 3:
		slices.Reverse(e)
	case 4:
		e[at] = d.below(n+2) - 1
	case 5:
		list[i] = slices.Delete(e, at, at+1)
	case 6:
		list[i] = slices.Insert(e, at, d.below(n))
	case 7: // in two
		list[i] = e[:at+1]
		list = slices.Insert(list, i+1, slices.Clone(e[at:]))
	case 8: // the cycle begins elsewhere
		at = d.below(len(list[0]) - 1)
		list[0] = slices.Concat(list[0][at:len(list[0])-1], list[0][:at+1])
	case 9: // two in one
		if i != j {
			list[i] = slices.Concat(e, list[j][1:])
			list = slices.Delete(list, j, j+1)
		}
	}
	return list
}

// TestCheckEarsMany compares with the definition, and is P4.9: if ears are accepted, there
// is no cut node.
func TestCheckEarsMany(t *testing.T) {
	d := dice(3)
	accepted, refused := 0, 0
	for _, g := range manyGraphs() {
		good, e := ears.Ears(g)
		if e != api.OK {
			continue
		}
		for range 20 {
			l := good
			for range 3 {
				if l = changed(l, len(g), &d); len(l) == 0 || slices.ContainsFunc(l, func(e ear) bool { return len(e) < 2 }) {
					break
				}
				want := areEars(g, l)
				ok, e := ears.CheckEars(g, l)
				if ok != want || e != api.OK {
					t.Fatal(g, l, ok, e, want)
				}
				if ok {
					accepted++
				} else {
					refused++
				}
			}
		}
	}
	if accepted < 3000 || refused < 10000 {
		t.Error(accepted, refused)
	}
}

// TestEarsOfOtherGraphs is P4.9: ears of a graph are refused for the graph with an edge
// more or less, and what is accepted is accepted for a double graph only.
func TestEarsOfOtherGraphs(t *testing.T) {
	d := dice(8)
	for _, g := range manyGraphs() {
		l, e := ears.Ears(g)
		if e != api.OK {
			continue
		}
		for range 5 {
			a, b := d.below(len(g)), d.below(len(g))
			if a == b {
				continue
			}
			h := slices.Clone(g)
			h[a] ^= setOf(b)
			h[b] ^= setOf(a)
			if ok, e := ears.CheckEars(h, l); ok || e != api.OK {
				t.Fatal(g, h, l, ok, e)
			}
		}
		if ok, e := ears.CheckEars(append(slices.Clone(g), 0), l); ok || len(g) < 10 && e != api.OK {
			t.Fatal(g, l, ok, e)
		}
	}
}

// waysWithin returns all slices of nodes in which neighbours are neighbours, and all are
// different but that the last one may be the first one.
func waysWithin(g api.Graph) []ear {
	var list []ear
	var goOn func(e ear)
	goOn = func(e ear) {
		list = append(list, slices.Clone(e))
		for v := range g {
			if !near(g, e[len(e)-1], v) {
				continue
			}
			if !slices.Contains(e, v) {
				goOn(append(slices.Clone(e), v))
			} else if v == e[0] {
				list = append(list, append(slices.Clone(e), v))
			}
		}
	}
	for v := range g {
		goOn(ear{v})
	}
	return list
}

// TestEarsEvery is P4.9 by trying everything: no ears of a graph that is not double are
// accepted.
func TestEarsEvery(t *testing.T) {
	graphs := slices.Concat(allGraphs(1), allGraphs(2), allGraphs(3))
	for _, g := range append(graphs, path(4), star(4), beside(cycle(3), apart(1)), cycle(4)) {
		some := false
		candidates := waysWithin(g)
		var goOn func(l []ear)
		goOn = func(l []ear) {
			ok, _ := ears.CheckEars(g, l)
			some = some || ok
			if ok != areEars(g, l) {
				t.Fatal(g, l, ok)
			}
			if len(l) < 2 {
				for _, e := range candidates {
					goOn(append(slices.Clone(l), e))
				}
			}
		}
		goOn(nil)
		same(t, fmt.Sprint(g), some, isDouble(g))
	}
}
