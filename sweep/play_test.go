package sweep_test

import (
	"fmt"
	"maps"
	"slices"
	"testing"

	"lampblack/api"
	"lampblack/sweep"
)

type act = sweep.Act

func place(v int) act  { return act{Place: true, Node: v} }
func remove(v int) act { return act{Place: false, Node: v} }

// round is a plan that is played by its definition, street by street.
type round struct {
	g       api.Graph
	guards  map[int]bool
	visited map[int]bool
	clear   map[[2]int]bool // false for each street that is smoky
	most    int
	back    bool
}

func newRound(g api.Graph) *round {
	r := &round{g: g, guards: map[int]bool{}, visited: map[int]bool{}, clear: map[[2]int]bool{}}
	for a := range g {
		for b := range a {
			if near(g, a, b) {
				r.clear[[2]int{b, a}] = false
			}
		}
	}
	return r
}

func (r *round) clone() *round {
	return &round{g: r.g, guards: maps.Clone(r.guards), visited: maps.Clone(r.visited), clear: maps.Clone(r.clear), most: r.most, back: r.back}
}

// do does an act, lets the smoke spread, and reports whether the act can be done.
func (r *round) do(a act) bool {
	if a.Node < 0 || a.Node >= len(r.g) || r.guards[a.Node] == a.Place {
		return false
	}
	if a.Place {
		r.guards[a.Node], r.visited[a.Node] = true, true
	} else {
		delete(r.guards, a.Node)
	}
	r.most = max(r.most, len(r.guards))
	for s := range r.clear {
		r.clear[s] = r.clear[s] || r.guards[s[0]] && r.guards[s[1]]
	}
	for r.spread() {
		r.back = true
	}
	return true
}

// spread makes one clear street smoky, if there is one to which smoke comes.
func (r *round) spread() bool {
	for s, isClear := range r.clear {
		for other, otherClear := range r.clear {
			for _, end := range s {
				if isClear && !otherClear && !r.guards[end] && (other[0] == end || other[1] == end) {
					r.clear[s] = false
					return true
				}
			}
		}
	}
	return false
}

// done reports whether all streets are clear, and every node had a guard.
func (r *round) done() bool {
	for _, isClear := range r.clear {
		if !isClear {
			return false
		}
	}
	return len(r.visited) == len(r.g)
}

// played goes by the definition.
func played(g api.Graph, plan []act) (guards int, back, right bool) {
	r := newRound(g)
	for _, a := range plan {
		if !r.do(a) {
			return 0, false, false
		}
	}
	if !r.done() || len(plan) > 100 {
		return 0, false, false
	}
	return r.most, r.back, true
}

func TestPlayExamples(t *testing.T) {
	three := []act{place(0), place(1), remove(0), place(2), remove(1), remove(2)}
	table := []struct {
		name        string
		g           api.Graph
		plan        []act
		guards      int // 0: the plan is not right
		back, right bool
	}{
		{"path", path(3), three, 2, false, true},
		{"some guards stay", path(3), three[:4], 2, false, true},
		{"three guards", path(3), []act{place(2), place(0), place(1)}, 3, false, true},
		{"middle too early", path(3), []act{place(0), place(1), remove(1), place(2)}, 0, false, false},
		{"smoke comes back", path(3), []act{place(0), place(1), remove(1), place(1), remove(0), place(2)}, 2, true, true},
		{"smoke comes back twice", path(3), []act{place(0), place(1), remove(0), remove(1), place(2), place(1), remove(1), place(0), place(1)}, 3, true, true},
		{"smoke stays in a dead end", path(2), []act{place(0), place(1), remove(0), remove(1)}, 2, false, true},
		{"a street that is left out", path(3), []act{place(0), place(1)}, 0, false, false},
		{"smoke at last", path(4), []act{place(0), place(1), remove(0), place(2), remove(2)}, 0, false, false},
		{"along a cycle", cycle(4), []act{place(0), place(1), place(2), remove(1), place(3)}, 3, false, true},
		{"too few along a cycle", cycle(4), []act{place(0), place(1), remove(0), place(2), remove(1), place(3), remove(2), place(0)}, 0, false, false},
		{"one node", apart(1), []act{place(0)}, 1, false, true},
		{"one node, and away", apart(1), []act{place(0), remove(0)}, 1, false, true},
		{"two apart", apart(2), []act{place(1), remove(1), place(0)}, 1, false, true},
		{"two apart, one without a guard", apart(2), []act{place(1)}, 0, false, false},
		{"a node apart without a guard", beside(path(2), apart(1)), []act{place(0), place(1)}, 0, false, false},
		{"no act", apart(1), nil, 0, false, false},
		{"no act, empty", path(2), []act{}, 0, false, false},
		{"placed twice", apart(1), []act{place(0), place(0)}, 0, false, false},
		{"removed first", apart(1), []act{remove(0), place(0)}, 0, false, false},
		{"removed twice", apart(1), []act{place(0), remove(0), remove(0)}, 0, false, false},
		{"no such node", apart(1), []act{place(0), place(1)}, 0, false, false},
		{"no such node removed", apart(1), []act{place(0), remove(1)}, 0, false, false},
		{"negative node", apart(1), []act{place(0), place(-1)}, 0, false, false},
		{"negative node removed", apart(1), []act{place(0), remove(-1)}, 0, false, false},
		{"far nodes", apart(1), []act{place(0), place(64), remove(64)}, 0, false, false},
		{"least node", apart(1), []act{place(0), place(-1 << 63)}, 0, false, false},
		{"greatest node", apart(1), []act{place(0), place(1<<63 - 1)}, 0, false, false},
	}
	for _, row := range table {
		guards, back, right, e := sweep.Play(row.g, row.plan)
		same(t, row.name, guards, row.guards)
		same(t, row.name, back, row.back)
		same(t, row.name, right, row.right)
		same(t, row.name, e, api.OK)
	}
}

// TestPlayLimit: a plan has at most 100 acts.
func TestPlayLimit(t *testing.T) {
	again := []act{place(0), remove(0)}
	for _, row := range []struct {
		acts  int
		right bool
	}{{99, true}, {100, true}, {101, false}, {102, false}, {1000000, false}} {
		plan := slices.Repeat(again, row.acts/2)
		if row.acts%2 == 1 {
			plan = append(plan, place(0))
		}
		guards, back, right, e := sweep.Play(apart(1), plan)
		same(t, fmt.Sprint(row), right, row.right)
		same(t, fmt.Sprint(row), guards == 1, row.right)
		same(t, fmt.Sprint(row), back, false)
		same(t, fmt.Sprint(row), e, api.OK)
	}
}

// somePlan plays acts that can be done, with at most so many guards, until the plan is
// right or long.
func somePlan(g api.Graph, guards int, d *dice) []act {
	var plan []act
	r := newRound(g)
	for len(plan) < 60 && !r.done() {
		a := act{Place: d.below(5) < 3, Node: d.below(len(g))}
		if (!a.Place || len(r.guards) < guards) && r.do(a) {
			plan = append(plan, a)
		}
	}
	return plan
}

// TestPlayMany is P3.3: it compares with the definition.
func TestPlayMany(t *testing.T) {
	d := dice(3)
	found := map[string]int{}
	for _, g := range manyGraphs() {
		for guards := 1; guards <= len(g); guards++ {
			plan := somePlan(g, guards, &d)
			for range 3 {
				guards, back, right := played(g, plan)
				n, b, ok, e := sweep.Play(g, plan)
				if n != guards || b != back || ok != right || e != api.OK {
					t.Fatal(g, plan, n, b, ok, e, guards, back, right)
				}
				found[fmt.Sprint(back, right)]++
				i := d.below(len(plan) + 1)
				plan = slices.Insert(plan, i, act{Place: d.below(2) == 0, Node: d.below(len(g))})
				if d.below(2) == 0 {
					plan = slices.Delete(plan, 0, 1)
				}
			}
		}
	}
	if found["false true"] < 1000 || found["true true"] < 1000 || found["false false"] < 1000 {
		t.Error(found)
	}
}

// followed goes by the definition of Follow.
func followed(bags []int) []act {
	var plan []act
	var guarded []int
	for _, bag := range append(slices.Clone(bags), 0) {
		for v := range 7 {
			if slices.Contains(guarded, v) && !slices.Contains(nodesOf(bag), v) {
				plan = append(plan, remove(v))
			}
		}
		for v := range 7 {
			if !slices.Contains(guarded, v) && slices.Contains(nodesOf(bag), v) {
				plan = append(plan, place(v))
			}
		}
		guarded = nodesOf(bag)
	}
	return plan
}

func TestFollowExamples(t *testing.T) {
	table := []struct {
		g    api.Graph
		bags []int
		want []act
	}{
		{path(3), []int{1, 3, 6}, []act{place(0), place(1), remove(0), place(2), remove(1), remove(2)}},
		{path(3), []int{6, 3}, []act{place(1), place(2), remove(2), place(0), remove(0), remove(1)}},
		{path(3), []int{0, 7, 7, 0}, []act{place(0), place(1), place(2), remove(0), remove(1), remove(2)}},
		{beside(path(2), path(2)), []int{3, 12}, []act{place(0), place(1), remove(0), remove(1), place(2), place(3), remove(2), remove(3)}},
		{apart(2), []int{2, 1}, []act{place(1), remove(1), place(0), remove(0)}},
		{apart(1), []int{1}, []act{place(0), remove(0)}},
	}
	for _, row := range table {
		plan, e := sweep.Follow(row.g, row.bags)
		sameText(t, fmt.Sprint(row.bags), plan, row.want)
		same(t, fmt.Sprint(row.bags), e, api.OK)
	}
}

// TestFollowMany is P3.4 and P3.7 for Follow.
func TestFollowMany(t *testing.T) {
	d := dice(15)
	for _, g := range manyGraphs() {
		for range 6 {
			bags := someBags(g, &d)
			w, ok, _ := sweep.Check(g, bags)
			plan, e := sweep.Follow(g, bags)
			if !ok {
				if len(plan) > 0 || e != api.ErrArg {
					t.Fatal(g, bags, plan, e)
				}
				continue
			}
			if !slices.Equal(plan, followed(bags)) || e != api.OK {
				t.Fatal(g, bags, plan, e)
			}
			if guards, back, right, e := sweep.Play(g, plan); guards != w+1 || back || !right || e != api.OK {
				t.Fatal(g, bags, plan, guards, back, right, e)
			}
		}
	}
}

// TestPlanAll is P3.4 and P3.7 for Plan and Least.
func TestPlanAll(t *testing.T) {
	for _, g := range manyGraphs() {
		_, w, _ := sweep.Layout(g)
		plan, e := sweep.Plan(g)
		if e != api.OK {
			t.Fatal(g, plan, e)
		}
		if guards, back, right := played(g, plan); guards != w+1 || back || !right {
			t.Fatal(g, plan, guards, back, right, w)
		}
		if guards, back, right, e := sweep.Play(g, plan); guards != w+1 || back || !right || e != api.OK {
			t.Fatal(g, plan, guards, back, right, e, w)
		}
		if n, e := sweep.Least(g); n != w+1 || e != api.OK {
			t.Fatal(g, n, e, w)
		}
	}
}

func TestLeastExamples(t *testing.T) {
	for _, row := range []struct {
		name string
		g    api.Graph
		want int
	}{
		{"one node", apart(1), 1}, {"seven apart", apart(7), 1}, {"path", path(3), 2}, {"star", star(7), 2}, {"spider", spider(), 3},
		{"cycle", cycle(7), 3}, {"wheel", wheel(7), 4}, {"complete", complete(7), 7},
	} {
		n, e := sweep.Least(row.g)
		same(t, row.name, n, row.want)
		same(t, row.name, e, api.OK)
	}
}

// state is all of a round on which it depends how it can go on.
func (r *round) state() string { return fmt.Sprint(r.guards, r.visited, r.clear) }

// canClear goes through all plans with at most so many guards, also those that go back.
func canClear(g api.Graph, guards int) bool {
	first := newRound(g)
	seen := map[string]bool{first.state(): true}
	for work := []*round{first}; len(work) > 0; work = work[1:] {
		if work[0].done() {
			return true
		}
		for v := range g {
			next := work[0].clone()
			a := act{Place: !next.guards[v], Node: v}
			if a.Place && len(next.guards) == guards {
				continue
			}
			next.do(a)
			if s := next.state(); !seen[s] {
				seen[s] = true
				work = append(work, next)
			}
		}
	}
	return false
}

// TestLeastAll is P3.6 and P3.7: there is no right plan with fewer guards, whether it
// goes back or not.
func TestLeastAll(t *testing.T) {
	var graphs []api.Graph
	for n := 1; n <= 4; n++ {
		graphs = append(graphs, allGraphs(n)...)
	}
	graphs = append(graphs, someGraphs(5, 30)...)
	graphs = append(graphs, someGraphs(6, 5)...)
	for _, g := range append(graphs, spider(), cycle(6)) {
		n, e := sweep.Least(g)
		if e != api.OK || canClear(g, n-1) || !canClear(g, n) {
			t.Fatal(g, n, e)
		}
	}
}
