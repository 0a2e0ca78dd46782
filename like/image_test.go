package like_test

import (
	"slices"
	"testing"

	"lampblack/api"
	"lampblack/like"
)

// isMap goes by the definition.
func isMap(t, g api.Graph, given []int) bool {
	for v := range t {
		for u := range t {
			if near(t, v, u) && !near(g, given[v], given[u]) {
				return false
			}
		}
	}
	return true
}

// isRenaming goes by the definition.
func isRenaming(g, h api.Graph, given []int) bool {
	for v := range h {
		if !slices.Contains(given, v) {
			return false
		}
	}
	for v := range g {
		for u := range v {
			if given[v] == given[u] || near(g, v, u) != near(h, given[v], given[u]) {
				return false
			}
		}
	}
	return true
}

func mapsOf(t *testing.T, from, to api.Graph) int {
	t.Helper()
	n, e := like.Maps(from, to)
	if e != api.OK {
		t.Fatal(from, to, n, e)
	}
	return n
}

func turnsOf(t *testing.T, g api.Graph) int {
	t.Helper()
	n, e := like.Turns(g)
	if e != api.OK {
		t.Fatal(g, n, e)
	}
	return n
}

func TestMapsExamples(t *testing.T) {
	table := []struct {
		from, to api.Graph
		want     int
	}{
		{path(3), cycle(6), 24}, {path(3), beside(cycle(3), cycle(3)), 24}, {apart(1), apart(1), 1}, {apart(1), path(5), 5}, {apart(6), apart(6), 46656},
		{path(2), apart(6), 0}, {path(2), cycle(5), 10}, {cycle(3), cycle(3), 6}, {cycle(3), cycle(6), 0}, {cycle(3), beside(cycle(3), cycle(3)), 12},
		{cycle(5), complete(3), 30}, {complete(6), complete(6), 720}, {complete(6), complete(5), 0}, {cycle(4), path(2), 2}, {path(6), path(2), 2}, {path(1), apart(1), 1},
		{path(3), path(3), 6}, {path(4), path(3), 8}, {star(6), star(6), 5 + 3125}, {cycle(6), cycle(3), 66}, {beside(path(2), apart(1)), path(2), 4},
	}
	for _, row := range table {
		n, e := like.Maps(row.from, row.to)
		sameText(t, text(row.from, row.to), []any{n, e}, []any{row.want, api.OK})
	}
}

func TestMapsMany(t *testing.T) {
	d := dice(17)
	for _, from := range smallGraphs(4) {
		for _, to := range some(manyGraphs(), 12, &d) {
			want := 0
			for _, given := range slicesOf(len(from), len(to)) {
				if isMap(from, to, given) {
					want++
				}
			}
			if got := mapsOf(t, from, to); got != want {
				t.Fatal(from, to, got, want)
			}
		}
	}
	for _, to := range append(some(manyGraphs(), 6, &d), cycle(6), complete(6)) {
		all := slicesOf(6, len(to))
		for _, from := range some(someGraphs(6, 120), 6, &d) {
			want := 0
			for _, given := range all {
				if isMap(from, to, given) {
					want++
				}
			}
			if got := mapsOf(t, from, to); got != want {
				t.Fatal(from, to, got, want)
			}
		}
	}
}

// TestMapsProduct is P9.15.
func TestMapsProduct(t *testing.T) {
	d := dice(19)
	for _, from := range smallGraphs(3) {
		for _, other := range smallGraphs(3) {
			for _, to := range some(manyGraphs(), 5, &d) {
				if got, want := mapsOf(t, beside(from, other), to), mapsOf(t, from, to)*mapsOf(t, other, to); got != want {
					t.Fatal(from, other, to, got, want)
				}
			}
		}
	}
}

func TestSameExamples(t *testing.T) {
	swapped := edges(3, [2]int{0, 1}, [2]int{0, 2})
	table := []struct {
		g, h api.Graph
		want []int
		e    api.Errno
	}{
		{apart(1), apart(1), []int{0}, api.OK}, {apart(6), apart(6), []int{0, 1, 2, 3, 4, 5}, api.OK}, {path(3), swapped, []int{1, 0, 2}, api.OK}, {swapped, path(3), []int{1, 0, 2}, api.OK},
		{path(4), edges(4, [2]int{1, 0}, [2]int{0, 3}, [2]int{3, 2}), []int{1, 0, 3, 2}, api.OK}, {path(4), edges(4, [2]int{3, 0}, [2]int{0, 1}, [2]int{1, 2}), []int{2, 1, 0, 3}, api.OK},
		{cycle(6), beside(cycle(3), cycle(3)), nil, api.ErrNone}, {prism(), sides(3, 3), nil, api.ErrNone}, {apart(1), apart(2), nil, api.ErrNone}, {apart(2), apart(1), nil, api.ErrNone},
		{path(2), apart(2), nil, api.ErrNone}, {path(5), path(6), nil, api.ErrNone}, {path(6), path(5), nil, api.ErrNone}, {complete(3), complete(4), nil, api.ErrNone}, {star(4), path(4), nil, api.ErrNone},
	}
	for _, row := range table {
		names, e := like.Same(row.g, row.h)
		sameText(t, text(row.g, row.h), []any{names, e}, []any{append([]int{}, row.want...), row.e})
	}
}

func TestSameMany(t *testing.T) {
	all := map[int][][]int{}
	for n := range 7 {
		all[n] = orders(n)
	}
	for _, p := range manyPairs() {
		var want []int
		e1 := api.ErrNone
		for _, given := range all[len(p[0])] {
			if len(p[0]) == len(p[1]) && isRenaming(p[0], p[1], given) {
				want, e1 = given, api.OK
				break
			}
		}
		if names, e := like.Same(p[0], p[1]); !slices.Equal(names, want) || e != e1 {
			t.Fatal(p, names, e)
		}
	}
	for _, g := range manyGraphs() {
		want := 0
		for _, given := range all[len(g)] {
			if isRenaming(g, g, given) {
				want++
			}
		}
		if got := turnsOf(t, g); got != want {
			t.Fatal(g, got, want)
		}
	}
}

func TestTurnsExamples(t *testing.T) {
	table := []struct {
		g    api.Graph
		want int
	}{
		{apart(1), 1}, {apart(6), 720}, {complete(6), 720}, {path(3), 2}, {path(6), 2}, {cycle(3), 6}, {cycle(6), 12}, {beside(cycle(3), cycle(3)), 72}, {sides(3, 3), 72},
		{prism(), 12}, {star(6), 120}, {sides(2, 4), 48}, {beside(path(2), apart(1)), 2}, {edges(6, [2]int{0, 1}, [2]int{1, 2}, [2]int{2, 3}, [2]int{3, 4}, [2]int{1, 5}, [2]int{2, 5}), 1},
	}
	for _, row := range table {
		same(t, text(row.g), turnsOf(t, row.g), row.want)
	}
}

// TestTurns is P9.14.
func TestTurns(t *testing.T) {
	factorial := []int{1, 1, 2, 6, 24, 120, 720}
	for _, g := range manyGraphs() {
		n := turnsOf(t, g)
		if m := turnsOf(t, complement(g)); m != n || factorial[len(g)]%n != 0 {
			t.Fatal(g, n, m)
		}
	}
	for _, p := range manyPairs() {
		_, e1 := like.Same(p[0], p[1])
		_, e2 := like.Same(complement(p[0]), complement(p[1]))
		if e1 != e2 {
			t.Fatal(p, e1, e2)
		}
	}
}
