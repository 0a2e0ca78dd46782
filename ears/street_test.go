package ears_test

import (
	"fmt"
	"slices"
	"testing"

	"lampblack/api"
	"lampblack/ears"
)

type street = ears.Street

// areStrong goes by the definition of strong one-way streets in the order of the edges.
func areStrong(g api.Graph, l []street) bool {
	var pairs [][2]int
	out := apart(len(g))
	for _, s := range l {
		pairs = append(pairs, [2]int{min(s.From, s.To), max(s.From, s.To)})
	}
	if !slices.Equal(pairs, edgesOf(g)) {
		return false
	}
	for _, s := range l {
		out[s.From] |= setOf(s.To)
	}
	for _, row := range joined(out) {
		if row != all(g) {
			return false
		}
	}
	return true
}

func TestOrientExamples(t *testing.T) {
	table := []struct {
		name string
		g    api.Graph
		want api.Errno
	}{
		{"two triangles", api.Graph{6, 5, 27, 20, 12}, api.OK},
		{"cycle of four", cycle(4), api.OK},
		{"path of three", path(3), api.ErrNone},
		{"one node", apart(1), api.OK},
		{"two apart", apart(2), api.ErrNone},
		{"path of two", path(2), api.ErrNone},
		{"triangle", cycle(3), api.OK},
		{"two cycles beside", beside(cycle(5), cycle(5)), api.ErrNone},
		{"a cycle and a node", beside(cycle(5), apart(1)), api.ErrNone},
		{"a cycle and a leaf", edges(4, [2]int{0, 1}, [2]int{0, 2}, [2]int{1, 2}, [2]int{2, 3}), api.ErrNone},
		{"two triangles and a bridge", edges(6, [2]int{0, 1}, [2]int{0, 2}, [2]int{1, 2}, [2]int{2, 3}, [2]int{3, 4}, [2]int{3, 5}, [2]int{4, 5}), api.ErrNone},
		{"four triangles", chain(4), api.OK},
		{"ten apart", apart(10), api.ErrNone},
		{"complete of ten", complete(10), api.OK},
		{"petersen", petersen(), api.OK},
	}
	for _, row := range table {
		l, e := ears.Orient(row.g)
		same(t, row.name, e, row.want)
		if e == api.OK {
			same(t, row.name, areStrong(row.g, l), true)
		} else {
			same(t, row.name, len(l), 0)
		}
	}
}

func TestCheckOrientExamples(t *testing.T) {
	around := []street{{0, 1}, {2, 0}, {1, 2}}
	table := []struct {
		name string
		g    api.Graph
		l    []street
		want bool
	}{
		{"around", cycle(3), around, true},
		{"around backward", cycle(3), []street{{1, 0}, {0, 2}, {2, 1}}, true},
		{"two ways to one node", cycle(3), []street{{0, 1}, {0, 2}, {1, 2}}, false},
		{"all from one node", cycle(3), []street{{0, 1}, {0, 2}, {2, 1}}, false},
		{"all to the first node", cycle(3), []street{{1, 0}, {2, 0}, {1, 2}}, false},
		{"too few, but strong", complete(4), []street{{0, 1}, {2, 0}, {0, 3}, {1, 2}, {3, 1}}, false},
		{"enough, and strong", complete(4), []street{{0, 1}, {2, 0}, {0, 3}, {1, 2}, {3, 1}, {2, 3}}, true},
		{"another order", cycle(3), []street{{0, 1}, {1, 2}, {2, 0}}, false},
		{"too few", cycle(3), around[:2], false},
		{"too many", cycle(3), append(slices.Clone(around), street{0, 1}), false},
		{"both directions", cycle(3), []street{{0, 1}, {1, 0}, {2, 0}, {1, 2}}, false},
		{"an edge twice", cycle(3), []street{{0, 1}, {0, 1}, {1, 2}}, false},
		{"no edge", cycle(4), []street{{0, 1}, {0, 2}, {1, 2}, {2, 3}}, false},
		{"from itself", cycle(3), []street{{0, 0}, {2, 0}, {1, 2}}, false},
		{"nil", cycle(3), nil, false},
		{"empty", cycle(3), []street{}, false},
		{"one node", apart(1), nil, true},
		{"one node, empty", apart(1), []street{}, true},
		{"one node and a street", apart(1), []street{{0, 0}}, false},
		{"two apart", apart(2), nil, false},
		{"ten apart", apart(10), nil, false},
		{"path of two", path(2), []street{{0, 1}}, false},
		{"path of two, back", path(2), []street{{1, 0}}, false},
		{"two cycles beside", beside(cycle(3), cycle(3)), []street{{0, 1}, {2, 0}, {1, 2}, {3, 4}, {5, 3}, {4, 5}}, false},
		{"two triangles", chain(2), []street{{0, 1}, {2, 0}, {1, 2}, {2, 3}, {4, 2}, {3, 4}}, true},
		{"two triangles, one not around", chain(2), []street{{0, 1}, {2, 0}, {1, 2}, {2, 3}, {2, 4}, {3, 4}}, false},
		{"negative", cycle(3), []street{{0, -1}, {2, 0}, {1, 2}}, false},
		{"beyond", cycle(3), []street{{0, 1}, {3, 0}, {1, 2}}, false},
		{"far beyond", cycle(3), []street{{0, 65}, {2, 0}, {1, 2}}, false},
		{"least", cycle(3), []street{{-1 << 63, 1}, {2, 0}, {1, 2}}, false},
		{"greatest", cycle(3), []street{{0, 1}, {2, 0}, {1, 1<<63 - 1}}, false},
		{"very many", cycle(3), make([]street, 1000000), false},
	}
	for _, row := range table {
		same(t, row.name+" by the definition", areStrong(row.g, row.l), row.want)
		ok, e := ears.CheckOrient(row.g, row.l)
		same(t, row.name, ok, row.want)
		same(t, row.name, e, api.OK)
	}
}

// TestOrientMany is P4.5, P4.9 of streets, and P4.11.
func TestOrientMany(t *testing.T) {
	for _, g := range manyGraphs() {
		l, e := ears.Orient(g)
		bridges, _ := ears.Bridges(g)
		if isFirm := isConnected(g, all(g)) && len(bridges) == 0; (e == api.OK) != isFirm {
			t.Fatal(g, l, e, bridges)
		}
		if e != api.OK {
			if len(l) != 0 || e != api.ErrNone {
				t.Fatal(g, l, e)
			}
			continue
		}
		if ok, e := ears.CheckOrient(g, l); !ok || e != api.OK || !areStrong(g, l) {
			t.Fatal(g, l, ok, e)
		}
	}
}

// directions returns all one-way streets of edges.
func directions(edges [][2]int) [][]street {
	list := [][]street{{}}
	for _, p := range edges {
		var longer [][]street
		for _, l := range list {
			longer = append(longer, append(slices.Clone(l), street{p[0], p[1]}), append(slices.Clone(l), street{p[1], p[0]}))
		}
		list = longer
	}
	return list
}

// TestOrientEvery is P4.11 by trying everything: where Orient is not OK, no one-way
// streets are strong.
func TestOrientEvery(t *testing.T) {
	for _, g := range smallGraphs() {
		some := false
		for _, l := range directions(edgesOf(g)) {
			ok, e := ears.CheckOrient(g, l)
			if ok != areStrong(g, l) || e != api.OK {
				t.Fatal(g, l, ok, e)
			}
			some = some || ok
		}
		_, e := ears.Orient(g)
		same(t, fmt.Sprint(g), some, e == api.OK)
	}
}

// TestCheckOrientMany compares one-way streets of larger graphs, of which some are turned
// around, with the definition.
func TestCheckOrientMany(t *testing.T) {
	d := dice(6)
	accepted, refused := 0, 0
	for _, g := range largeGraphs() {
		l, e := ears.Orient(g)
		if e != api.OK {
			continue
		}
		for range 20 {
			i := d.below(len(l))
			l[i].From, l[i].To = l[i].To, l[i].From
			want := areStrong(g, l)
			ok, e := ears.CheckOrient(g, l)
			if ok != want || e != api.OK {
				t.Fatal(g, l, ok, e, want)
			}
			if ok {
				accepted++
			} else {
				refused++
			}
		}
	}
	if accepted < 500 || refused < 500 {
		t.Error(accepted, refused)
	}
}
