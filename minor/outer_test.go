package minor_test

import (
	"slices"
	"testing"

	"lampblack/api"
	"lampblack/minor"
	"lampblack/width"
)

// crossed goes by the definition.
func crossed(g api.Graph, l []int) bool {
	for m := range l {
		for k := range m {
			for j := range k {
				for i := range j {
					if near(g, l[i], l[k]) && near(g, l[j], l[m]) {
						return true
					}
				}
			}
		}
	}
	return false
}

// isOuter goes by the definition.
func isOuter(g api.Graph, l []int) bool {
	for v := range g {
		if !slices.Contains(l, v) {
			return false
		}
	}
	return len(l) == len(g) && !crossed(g, l)
}

// advance makes of an order the next one, or returns false if it is the last one.
func advance(l []int) bool {
	for i := len(l) - 2; i >= 0; i-- {
		if l[i] > l[i+1] {
			continue
		}
		slices.Reverse(l[i+1:])
		j := i + 1
		for l[j] < l[i] {
			j++
		}
		l[i], l[j] = l[j], l[i]
		return true
	}
	return false
}

// firstOuter returns the first outer order, trying all, or nil.
func firstOuter(g api.Graph) []int {
	l := nodesOf(1<<len(g) - 1)
	for crossed(g, l) {
		if !advance(l) {
			return nil
		}
	}
	return l
}

func TestOuterExamples(t *testing.T) {
	table := []struct {
		g    api.Graph
		want []int
	}{
		{apart(1), []int{0}}, {apart(8), []int{0, 1, 2, 3, 4, 5, 6, 7}}, {complete(3), []int{0, 1, 2}}, {cycle(5), []int{0, 1, 2, 3, 4}}, {cycle(8), []int{0, 1, 2, 3, 4, 5, 6, 7}},
		{star(8), []int{0, 1, 2, 3, 4, 5, 6, 7}}, {fan(8), []int{0, 1, 2, 3, 4, 5, 6, 7}}, {sides(2, 2, false), []int{0, 2, 1, 3}}, {sides(2, 2, true), []int{0, 2, 1, 3}},
		{ladder(3), []int{0, 1, 2, 5, 4, 3}}, {ladder(4), []int{0, 1, 2, 3, 7, 6, 5, 4}}, {beside(cycle(4), cycle(4)), []int{0, 1, 2, 3, 4, 5, 6, 7}},
		{edges(6, [2]int{0, 2}, [2]int{1, 3}, [2]int{4, 5}), []int{0, 1, 3, 2, 4, 5}},
		{edges(5, [2]int{0, 3}, [2]int{3, 1}, [2]int{1, 4}, [2]int{4, 2}, [2]int{2, 0}), []int{0, 2, 4, 1, 3}},
	}
	for _, row := range table {
		l, e := minor.Outer(row.g)
		sameText(t, text(row.g), l, row.want)
		same(t, text(row.g), e, api.OK)
		ok, e := minor.CheckOuter(row.g, row.want)
		same(t, text(row.g), ok, true)
		same(t, text(row.g), e, api.OK)
	}
	for _, g := range []api.Graph{complete(4), sides(2, 3, false), sides(2, 6, true), cube(), wheel(3), wheel(7), complete(8), beside(complete(4), apart(4)), beside(apart(3), sides(2, 3, false))} {
		l, e := minor.Outer(g)
		sameText(t, text(g), l, []int{})
		same(t, text(g), e, api.ErrNone)
	}
}

// outerMatches is P7.4, P7.10 and P7.14 for a graph.
func outerMatches(t *testing.T, g api.Graph) {
	t.Helper()
	want, e1 := firstOuter(g), api.OK
	if want == nil {
		e1 = api.ErrNone
	}
	got, e2 := minor.Outer(g)
	if !slices.Equal(got, want) || e1 != e2 {
		t.Error(g, got, e2, want, e1)
	}
	if ok, e := minor.CheckOuter(g, got); ok != (e1 == api.OK) || e != api.OK {
		t.Error(g, got, ok, e)
	}
	_, four := minor.Model(g, complete(4))
	_, sides := minor.Model(g, minor.K23())
	if (e2 == api.OK) != (four == api.ErrNone && sides == api.ErrNone) {
		t.Error(g, e2, four, sides)
	}
	if e2 != api.OK {
		return
	}
	tree, _ := width.Decompose(g)
	ways, e := width.Count(g, tree, 3)
	if _, e4 := minor.Reduce(g); e4 != api.OK || ways <= 0 || e != api.OK {
		t.Error(g, e4, ways, e)
	}
}

func TestOuterMany(t *testing.T) {
	for _, g := range manyGraphs() {
		outerMatches(t, g)
	}
}

// TestCheckOuterSmall compares with the definition for all slices of numbers about the
// nodes.
func TestCheckOuterSmall(t *testing.T) {
	for _, g := range smallGraphs(4) {
		for n := range len(g) + 2 {
			for _, l := range slicesOf(-1, len(g), n) {
				if ok, e := minor.CheckOuter(g, l); ok != isOuter(g, l) || e != api.OK {
					t.Fatal(g, l, ok, e)
				}
			}
		}
	}
}

func TestCheckOuterMany(t *testing.T) {
	d := dice(17)
	accepted, refused := 0, 0
	for _, g := range manyGraphs() {
		first, e := minor.Outer(g)
		if e != api.OK {
			first = shuffled(len(g), &d)
		}
		for i := range len(g) + 6 {
			l := slices.Concat(first[i%len(g):], first[:i%len(g)])
			if i >= len(g) {
				l = shuffled(len(g), &d)
			} else if i%2 == 1 {
				slices.Reverse(l)
			}
			ok, e := minor.CheckOuter(g, l)
			if ok != isOuter(g, l) || e != api.OK {
				t.Fatal(g, l, ok, e)
			}
			if ok && slices.Compare(l, first) < 0 {
				t.Fatal(g, l, "is before", first)
			}
			if ok {
				accepted++
			} else {
				refused++
			}
		}
	}
	if accepted < 5000 || refused < 5000 {
		t.Error(accepted, refused)
	}
}

// TestCheckOuterOther: what is no outer order is false, and no error.
func TestCheckOuterOther(t *testing.T) {
	bad := [][]int{
		nil, {}, {0}, {0, 1, 2}, {0, 1, 2, 3, 0}, {0, 1, 2, 3, 4}, {0, 1, 2, 2}, {0, 0, 1, 2}, {0, 1, 2, 4}, {0, 1, 2, -1}, {-1, 0, 1, 2}, {1, 2, 3, 4},
		{0, 1, 2, 64}, {0, 1, 2, 67}, {0, 1, 2, 1 << 62}, {0, 1, 2, -1 << 63}, {0, 1, 2, 1<<63 - 1}, {0, 2, 1, 3}, {0, 1, 3, 2}, {2, 3, 1, 0}, make([]int, 1000000),
	}
	for _, l := range bad {
		ok, e := minor.CheckOuter(cycle(4), l)
		same(t, text(len(l)), ok, false)
		same(t, text(len(l)), e, api.OK)
	}
}

// TestApexExamples is P7.7.
func TestApexExamples(t *testing.T) {
	table := []struct {
		g    api.Graph
		want int
	}{
		{apart(1), 0}, {apart(2), 0}, {path(2), 0}, {complete(4), 0}, {sides(2, 3, false), 0}, {star(8), 0}, {wheel(3), 0}, {wheel(4), 0}, {wheel(5), 0}, {wheel(7), 0},
		{beside(cycle(3), complete(4)), 3}, {beside(apart(3), sides(2, 3, false)), 3}, {sides(3, 2, false), 0}, {beside(complete(4), apart(4)), 0},
		{sides(1, 6, true), 0}, {renamed(sides(2, 5, true), []int{5, 6, 0, 1, 2, 3, 4}), 5},
	}
	for _, row := range table {
		v, e := minor.Apex(row.g)
		same(t, text(row.g), v, row.want)
		same(t, text(row.g), e, api.OK)
	}
	for _, g := range []api.Graph{complete(5), complete(8), cube(), sides(3, 4, false), beside(complete(4), complete(4)), sides(3, 5, true)} {
		v, e := minor.Apex(g)
		same(t, text(g), v, 0)
		same(t, text(g), e, api.ErrNone)
	}
}

func TestApexMany(t *testing.T) {
	found := 0
	for _, g := range manyGraphs() {
		want, e1 := 0, api.ErrNone
		for v := len(g) - 1; v >= 0; v-- {
			if len(g) == 1 || firstOuter(without(g, v)) != nil {
				want, e1 = v, api.OK
			}
		}
		if v, e := minor.Apex(g); v != want || e != e1 {
			t.Fatal(g, v, e, want, e1)
		}
		if want > 0 {
			found++
		}
	}
	if found < 15 {
		t.Error("only", found)
	}
}
