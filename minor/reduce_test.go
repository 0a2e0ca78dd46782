package minor_test

import (
	"slices"
	"testing"

	"lampblack/api"
	"lampblack/minor"
	"lampblack/width"
)

type step = minor.Step

// stepsOf returns the reduction of a node, in a list of one, or an empty list: by the
// definition.
func stepsOf(g api.Graph, v int) []step {
	l := nodesOf(g[v])
	switch len(l) {
	case 0:
		return []step{{0, v, -1, -1}}
	case 1:
		return []step{{1, v, l[0], -1}}
	case 2:
		return []step{{2, v, l[0], l[1]}}
	}
	return nil
}

// after returns the graph after a reduction, in which the node has no neighbours.
func after(g api.Graph, s step) api.Graph {
	h := slices.Clone(g)
	if s.Kind == 2 {
		h[s.A] |= 1 << s.B
		h[s.B] |= 1 << s.A
	}
	h[s.Node] = 0
	for u := range h {
		h[u] &^= 1 << s.Node
	}
	return h
}

// greedy reduces the first node that can be, every time; the nodes left are a list.
func greedy(g api.Graph, left []int) ([]step, bool) {
	if len(left) == 0 {
		return nil, true
	}
	for i, v := range left {
		for _, s := range stepsOf(g, v) {
			more, ok := greedy(after(g, s), slices.Delete(slices.Clone(left), i, i+1))
			return append([]step{s}, more...), ok
		}
	}
	return nil, false
}

// canReduce tries all reductions.
func canReduce(g api.Graph, left []int) bool {
	if len(left) == 0 {
		return true
	}
	for i, v := range left {
		for _, s := range stepsOf(g, v) {
			if canReduce(after(g, s), slices.Delete(slices.Clone(left), i, i+1)) {
				return true
			}
		}
	}
	return false
}

// reduces goes by the definition.
func reduces(g api.Graph, l []step) bool {
	left := nodesOf(1<<len(g) - 1)
	for _, s := range l {
		i := slices.Index(left, s.Node)
		if i < 0 || !slices.Contains(stepsOf(g, s.Node), s) {
			return false
		}
		g = after(g, s)
		left = slices.Delete(left, i, i+1)
	}
	return len(left) == 0
}

func TestReduceExamples(t *testing.T) {
	table := []struct {
		g    api.Graph
		want []step
	}{
		{apart(1), []step{{0, 0, -1, -1}}},
		{apart(3), []step{{0, 0, -1, -1}, {0, 1, -1, -1}, {0, 2, -1, -1}}},
		{path(2), []step{{1, 0, 1, -1}, {0, 1, -1, -1}}},
		{path(3), []step{{1, 0, 1, -1}, {1, 1, 2, -1}, {0, 2, -1, -1}}},
		{star(4), []step{{1, 1, 0, -1}, {2, 0, 2, 3}, {1, 2, 3, -1}, {0, 3, -1, -1}}},
		{cycle(3), []step{{2, 0, 1, 2}, {1, 1, 2, -1}, {0, 2, -1, -1}}},
		{cycle(5), []step{{2, 0, 1, 4}, {2, 1, 2, 4}, {2, 2, 3, 4}, {1, 3, 4, -1}, {0, 4, -1, -1}}},
		{sides(2, 3, false), []step{{2, 2, 0, 1}, {2, 3, 0, 1}, {2, 0, 1, 4}, {1, 1, 4, -1}, {0, 4, -1, -1}}},
		{edges(4, [2]int{0, 1}, [2]int{0, 2}, [2]int{0, 3}, [2]int{2, 3}), []step{{1, 1, 0, -1}, {2, 0, 2, 3}, {1, 2, 3, -1}, {0, 3, -1, -1}}},
	}
	for _, row := range table {
		l, e := minor.Reduce(row.g)
		sameText(t, text(row.g), l, row.want)
		same(t, text(row.g), e, api.OK)
		ok, e := minor.CheckReduce(row.g, row.want)
		same(t, text(row.g), ok, true)
		same(t, text(row.g), e, api.OK)
	}
	for _, g := range []api.Graph{complete(4), complete(8), wheel(5), cube(), sides(3, 3, false), beside(path(3), complete(4)), beside(complete(4), apart(4))} {
		l, e := minor.Reduce(g)
		sameText(t, text(g), l, []step{})
		same(t, text(g), e, api.ErrNone)
	}
}

// TestReduceMany is P7.3 and P7.9.
func TestReduceMany(t *testing.T) {
	reduced := 0
	for _, g := range manyGraphs() {
		want, is := greedy(g, nodesOf(1<<len(g)-1))
		e1 := api.OK
		if !is {
			want, e1 = nil, api.ErrNone
		}
		got, e2 := minor.Reduce(g)
		if !slices.Equal(got, want) || e1 != e2 {
			t.Fatal(g, got, e2, want, e1)
		}
		if len(g) < 7 && canReduce(g, nodesOf(1<<len(g)-1)) != is {
			t.Fatal(g, "other reductions", is)
		}
		if ok, e := minor.CheckReduce(g, got); ok != is || e != api.OK {
			t.Fatal(g, got, ok, e)
		}
		_, e3 := minor.Model(g, complete(4))
		w, _ := width.Width(g)
		if (e3 == api.OK) == is || (w <= 2) != is {
			t.Fatal(g, is, e3, w)
		}
		if is {
			reduced++
		}
	}
	if reduced < 900 {
		t.Error("only", reduced)
	}
}

// TestReduceAny: nodes may be reduced in any order; any other change is refused.
func TestReduceAny(t *testing.T) {
	d := dice(3)
	accepted, refused := 0, 0
	for _, g := range manyGraphs() {
		l := someSteps(g, &d)
		for range 8 {
			want := reduces(g, l)
			if ok, e := minor.CheckReduce(g, l); ok != want || e != api.OK {
				t.Fatal(g, l, ok, e)
			}
			if want {
				accepted++
			} else {
				refused++
			}
			l = spoiled(l, len(g), &d)
		}
	}
	if accepted < 1000 || refused < 5000 {
		t.Error(accepted, refused)
	}
}

// someSteps returns reductions of a graph, in any order.
func someSteps(g api.Graph, d *dice) []step {
	var l []step
	left := shuffled(len(g), d)
	for i := 0; i < len(left); i++ {
		if s := stepsOf(g, left[i]); len(s) > 0 {
			l = append(l, s[0])
			g = after(g, s[0])
			left = slices.Delete(left, i, i+1)
			i = -1
		}
	}
	return l
}

// spoiled returns reductions of which one is changed, left out or done twice, or two are
// exchanged.
func spoiled(l []step, n int, d *dice) []step {
	l = slices.Clone(l)
	if len(l) == 0 {
		return append(l, step{0, 0, -1, -1})
	}
	i, j := d.below(len(l)), d.below(len(l))
	switch s := &l[i]; d.below(8) {
	case 0:
		s.Kind = d.below(5) - 1
	case 1:
		s.Node = d.below(n+2) - 1
	case 2:
		s.A = d.below(n+2) - 1
	case 3:
		s.B = d.below(n+2) - 1
	case 4:
		s.A, s.B = s.B, s.A
	case 5:
		return slices.Delete(l, i, i+1)
	case 6:
		return slices.Insert(l, j, l[i])
	case 7:
		l[i], l[j] = l[j], l[i]
	}
	return l
}

// TestCheckReduceOther: what reduces nothing, or not all, is false, and no error.
func TestCheckReduceOther(t *testing.T) {
	good := []step{{2, 0, 1, 3}, {2, 1, 2, 3}, {1, 2, 3, -1}, {0, 3, -1, -1}}
	ok, e := minor.CheckReduce(cycle(4), good)
	same(t, "good", ok, true)
	same(t, "good", e, api.OK)
	bad := map[string][]step{
		"nil": nil, "empty": {}, "one left": good[:3], "two left": good[:2], "first missing": good[1:],
		"one more":       append(slices.Clone(good), step{0, 3, -1, -1}),
		"one more zero":  append(slices.Clone(good), step{}),
		"one more no":    append(slices.Clone(good), step{0, -1, -1, -1}),
		"very many more": append(slices.Clone(good), make([]step, 1000000)...),
		"twice":          slices.Concat(good, good),
	}
	wrong := map[int][]step{
		0: {{2, 0, 3, 1}, {2, 0, 1, 2}, {2, 0, 1, 1}, {2, 0, 1, 4}, {1, 0, 1, -1}, {0, 0, -1, -1}, {1, 0, 1, 3}, {3, 0, 1, 3}, {-1, 0, 1, 3}, {2, 4, 1, 3}, {2, -1, 1, 3}, {2, 2, 1, 3}, {2, -1 << 63, 1, 3}, {2, 1<<63 - 1, 1, 3}},
		1: {{2, 1, 0, 2}, {2, 1, 3, 2}, {2, 0, 1, 3}, {1, 1, 2, -1}, {2, 1, 2, -1}, {2, 64, 2, 3}},
		2: {{1, 2, -1, 3}, {1, 2, 3, 3}, {1, 2, 3, 0}, {1, 2, 1, -1}, {2, 2, 1, 3}, {0, 2, -1, -1}, {1, 2, 3, -2}, {1, 2, 2, -1}, {1, 0, 3, -1}},
		3: {{0, 3, 0, 0}, {0, 3, 0, -1}, {0, 3, -1, 0}, {1, 3, 2, -1}, {0, 0, -1, -1}, {1, 3, -1, -1}, {0, 3, -2, -1}},
	}
	for i, list := range wrong {
		for _, s := range list {
			l := slices.Clone(good)
			l[i] = s
			bad[text(i, s)] = l
		}
	}
	for name, l := range bad {
		ok, e := minor.CheckReduce(cycle(4), l)
		same(t, name, ok, false)
		same(t, name, e, api.OK)
	}
	// No reduction takes away a node with three neighbours.
	ok, e = minor.CheckReduce(complete(4), good)
	same(t, "complete", ok, false)
	same(t, "complete", e, api.OK)
}
