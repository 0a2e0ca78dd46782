package like_test

import (
	"slices"
	"strings"
	"testing"

	"lampblack/api"
	"lampblack/like"
)

// even goes by the definition: whether the second player wins in the end.
func even(g, h api.Graph, a, b []int) bool {
	for i := range a {
		for j := range a {
			if (a[i] == a[j]) != (b[i] == b[j]) || near(g, a[i], a[j]) != near(h, b[i], b[j]) {
				return false
			}
		}
	}
	return true
}

// wins goes by the definition: the first player chooses any node of either graph.
func wins(g, h api.Graph, k int, a, b []int) bool {
	if k == 0 {
		return even(g, h, a, b)
	}
	return answers(g, h, k, a, b) && answers(h, g, k, b, a)
}

// answers reports whether the second player has an answer to each node of g.
func answers(g, h api.Graph, k int, a, b []int) bool {
	for u := range g {
		found := false
		for v := range h {
			found = found || wins(g, h, k-1, append(slices.Clip(a), u), append(slices.Clip(b), v))
		}
		if !found {
			return false
		}
	}
	return true
}

// kind is what can be said of nodes of a graph with k rounds left: how they are to each
// other, or the set of what can be said with one node more and a round less. The second
// player can win just if the kinds are the same.
func kind(g api.Graph, k int, chosen ...int) string {
	if k == 0 {
		bonds := make([]byte, 0, 36)
		for i, v := range chosen {
			for _, u := range chosen[:i] {
				switch {
				case v == u:
					bonds = append(bonds, '=')
				case near(g, v, u):
					bonds = append(bonds, '~')
				default:
					bonds = append(bonds, '.')
				}
			}
		}
		return string(bonds)
	}
	var kinds []string
	for v := range g {
		kinds = append(kinds, kind(g, k-1, append(slices.Clip(chosen), v)...))
	}
	slices.Sort(kinds)
	return "(" + strings.Join(slices.Compact(kinds), " ") + ")"
}

// kinds keeps the kinds of graphs.
type kinds map[string]string

func (c kinds) of(g api.Graph, k int) string {
	key := text(g, k)
	if c[key] == "" {
		c[key] = "kind " + kind(g, k)
	}
	return c[key]
}

func winOf(t *testing.T, g, h api.Graph, k int) bool {
	t.Helper()
	ok, e := like.Win(g, h, k)
	if e != api.OK {
		t.Fatal(g, h, k, ok, e)
	}
	return ok
}

func TestWinExamples(t *testing.T) {
	tailed := edges(5, [2]int{0, 1}, [2]int{1, 2}, [2]int{2, 0}, [2]int{2, 3}, [2]int{3, 4})
	table := []struct {
		g, h api.Graph
		wins int // of the rounds 0 to 3 the first so many
	}{
		{cycle(6), beside(cycle(3), cycle(3)), 3}, {path(3), cycle(3), 2}, {apart(1), apart(1), 4}, {apart(1), apart(2), 2}, {apart(2), apart(3), 3}, {apart(3), apart(4), 4}, {apart(3), apart(6), 4},
		{apart(1), path(2), 2}, {apart(2), path(2), 2}, {complete(2), complete(3), 3}, {complete(3), complete(6), 4}, {path(3), path(4), 2}, {path(4), path(5), 3}, {path(5), path(6), 3},
		{cycle(5), cycle(6), 3}, {cycle(3), cycle(4), 2}, {prism(), sides(3, 3), 3}, {star(5), star(6), 4}, {star(3), star(4), 3}, {tailed, tailed, 4},
		{beside(path(2), path(2)), beside(path(2), beside(path(2), path(2))), 3},
	}
	for _, row := range table {
		for k := range 4 {
			for _, p := range [][2]api.Graph{{row.g, row.h}, {row.h, row.g}} {
				got, e := like.Win(p[0], p[1], k)
				sameText(t, text(p, k), []any{got, e}, []any{k < row.wins, api.OK})
			}
		}
	}
}

// TestWinDefinition tries all courses of the game.
func TestWinDefinition(t *testing.T) {
	for _, g := range smallGraphs(3) {
		for _, h := range smallGraphs(3) {
			for k := range 4 {
				if got := winOf(t, g, h, k); got != wins(g, h, k, nil, nil) {
					t.Fatal(g, h, k, got)
				}
			}
		}
	}
	for _, p := range manyPairs() {
		for k := range 3 {
			if got := winOf(t, p[0], p[1], k); got != wins(p[0], p[1], k, nil, nil) {
				t.Fatal(p, k, got)
			}
		}
	}
}

// TestWinMany compares the game with kinds, and is the first part of P9.12.
func TestWinMany(t *testing.T) {
	c, won := kinds{}, 0
	for _, p := range manyPairs() {
		_, e := like.Same(p[0], p[1])
		last := true
		for k := range 4 {
			got := winOf(t, p[0], p[1], k)
			if got != (c.of(p[0], k) == c.of(p[1], k)) || got && !last || e == api.OK && !got {
				t.Fatal(p, k, got)
			}
			if last = got; k == 3 && got && e != api.OK {
				won++
			}
		}
		if alike, _ := like.Alike(p[0], p[1]); e == api.OK && !alike {
			t.Fatal(p, alike)
		}
	}
	same(t, "some are not the same, and won", won > 5, true)
}

func TestAnswerExamples(t *testing.T) {
	table := []struct {
		g, h api.Graph
		a, b []int
		wins int
	}{
		{path(3), path(3), []int{1}, []int{1}, 4}, {path(3), path(3), []int{0}, []int{2}, 4}, {path(3), path(3), []int{0}, []int{1}, 1}, {path(3), cycle(3), []int{1}, []int{0}, 2},
		{path(3), path(3), []int{0, 0}, []int{0, 2}, 0}, {path(3), path(3), []int{0, 2}, []int{1, 1}, 0}, {path(3), path(3), []int{0, 2}, []int{0, 1}, 0}, {path(3), path(3), []int{0, 2}, []int{2, 0}, 4},
		{path(3), path(3), []int{1, 2, 0}, []int{1, 2, 2}, 0}, {path(3), path(3), []int{1, 2, 0}, []int{1, 0, 2}, 4}, {path(3), path(3), []int{0, 0, 0}, []int{2, 2, 2}, 4},
		{apart(3), apart(4), []int{0, 1, 2}, []int{3, 0, 1}, 1}, {apart(3), apart(4), []int{0, 1, 1}, []int{3, 0, 0}, 2}, {apart(3), apart(4), []int{2, 2, 2}, []int{0, 0, 0}, 3},
		{apart(6), apart(5), []int{5, 4, 3}, []int{4, 3, 2}, 3}, {apart(6), apart(6), []int{5, 4, 3}, []int{0, 1, 2}, 4},
		{cycle(6), beside(cycle(3), cycle(3)), []int{0}, []int{5}, 2}, {cycle(6), beside(cycle(3), cycle(3)), []int{0, 2}, []int{0, 3}, 1}, {cycle(6), beside(cycle(3), cycle(3)), []int{0, 2, 4}, []int{0, 1, 2}, 0},
		{cycle(6), cycle(6), []int{0, 3}, []int{1, 4}, 4}, {cycle(6), cycle(6), []int{0, 3}, []int{1, 3}, 1},
	}
	for _, row := range table {
		for k := range 4 {
			got, e := like.Answer(row.g, row.h, k, row.a, row.b)
			sameText(t, text(row, k), []any{got, e}, []any{k < row.wins, api.OK})
			got, e = like.Answer(row.h, row.g, k, row.b, row.a)
			sameText(t, text(row, k), []any{got, e}, []any{k < row.wins, api.OK})
		}
	}
}

func someNodes(g api.Graph, count int, d *dice) []int {
	var list []int
	for range count {
		list = append(list, d.below(len(g)))
	}
	return list
}

func TestAnswerMany(t *testing.T) {
	d := dice(43)
	pairs := manyPairs()
	won := 0
	for i, p := range append(pairs, pairs...) {
		count := i % 4
		a, b := someNodes(p[0], count, &d), someNodes(p[1], count, &d)
		if names, e := like.Same(p[0], p[1]); e == api.OK && i%3 == 0 {
			for j, v := range a {
				b[j] = names[v]
			}
		}
		for k := range 4 {
			want := even(p[0], p[1], a, b) && kind(p[0], k, a...) == kind(p[1], k, b...)
			if k < 2 && want != wins(p[0], p[1], k, a, b) {
				t.Fatal("the definition", p, k, a, b)
			}
			got, e := like.Answer(p[0], p[1], k, a, b)
			if got != want || e != api.OK {
				t.Fatal(p, k, a, b, got, e)
			}
			if got && k == 3 && count > 1 {
				won++
			}
		}
	}
	same(t, "enough are won", won > 100, true)
}

// TestAnswerWin: without nodes it is Win; with them, a round less is left.
func TestAnswerWin(t *testing.T) {
	for _, p := range manyPairs()[:400] {
		for k := range 4 {
			got, e := like.Answer(p[0], p[1], k, nil, []int{})
			sameText(t, text(p, k), []any{got, e}, []any{winOf(t, p[0], p[1], k), api.OK})
		}
		for k := 1; k < 4; k++ {
			all := true
			for u := range p[0] {
				found := false
				for v := range p[1] {
					ok, _ := like.Answer(p[0], p[1], k-1, []int{u}, []int{v})
					found = found || ok
				}
				all = all && found
			}
			for v := range p[1] {
				found := false
				for u := range p[0] {
					ok, _ := like.Answer(p[0], p[1], k-1, []int{u}, []int{v})
					found = found || ok
				}
				all = all && found
			}
			same(t, text(p, k), all, winOf(t, p[0], p[1], k))
		}
	}
}

// outside are numbers that are no numbers of rounds.
func outside() []int { return []int{-1, 4, 5, 64, -64, 1 << 62, 1<<63 - 1, -1 << 63} }

func TestRoundsNotValid(t *testing.T) {
	for _, p := range [][2]api.Graph{{apart(1), apart(1)}, {apart(1), apart(2)}, {path(3), cycle(3)}, {complete(6), complete(6)}} {
		for _, k := range outside() {
			ok, e := like.Win(p[0], p[1], k)
			sameText(t, text(p, k), []any{ok, e}, []any{false, api.ErrArg})
			ok, e = like.Answer(p[0], p[1], k, []int{0}, []int{0})
			sameText(t, text(p, k), []any{ok, e}, []any{false, api.ErrArg})
			f, e := like.Tell(p[0], p[1], k)
			sameText(t, text(p, k), []any{f, e}, []any{form{}, api.ErrArg})
		}
	}
}

func TestAnswerNotValid(t *testing.T) {
	table := [][2][]int{
		{{0}, nil}, {nil, {0}}, {{0, 1}, {0}}, {{0}, {0, 1}}, {{0, 0, 0, 0}, {0, 0, 0, 0}}, {{0, 1, 0, 1}, {0, 1, 0, 1}}, {{0, 0, 0}, {0, 0, 0, 0}}, {make([]int, 100000), make([]int, 100000)},
		{{2}, {0}}, {{1}, {3}}, {{0, 2}, {0, 1}}, {{0, 1}, {0, 3}}, {{0, 1, -1}, {0, 1, 2}}, {{0, 1, 1}, {0, 1, -1}}, {{-1}, {-1}}, {{1 << 62}, {1}}, {{-1 << 63}, {1}}, {{1}, {1<<63 - 1}}, {{1}, {64}},
	}
	for _, row := range table {
		for k := range 4 {
			ok, e := like.Answer(path(2), path(3), k, row[0], row[1])
			sameText(t, text(k), []any{ok, e}, []any{false, api.ErrArg})
			ok, e = like.Answer(path(3), path(2), k, row[1], row[0])
			sameText(t, text(k), []any{ok, e}, []any{false, api.ErrArg})
		}
	}
}

// said returns the parts of which a formula says that all are true.
func said(f form) []string {
	if f.Op == "&" {
		return append(said(f.Kids[0]), said(f.Kids[1])...)
	}
	return []string{printed(f)}
}

// repeats reports whether a formula says the same again and again.
func repeats(f form) bool {
	parts := said(f)
	slices.Sort(parts)
	return len(slices.Compact(slices.Clone(parts))) < len(parts) || slices.ContainsFunc(f.Kids, repeats)
}

// TestTellMany: Tell is ErrNone just if the second player can win; else the formula is valid,
// closed, of a depth of at most k, true in the first graph and not in the second one, both
// by the definition and by Holds (P9.12, P9.13). It says nothing twice.
func TestTellMany(t *testing.T) {
	told := 0
	for _, p := range manyPairs() {
		for k := range 4 {
			f, e := like.Tell(p[0], p[1], k)
			if winOf(t, p[0], p[1], k) {
				sameText(t, text(p, k), []any{f, e}, []any{form{}, api.ErrNone})
				continue
			}
			told++
			if e != api.OK || !isValid(f) || !isClosed(f, 0) || nesting(f) > k || !isTrue(p[0], f, [4]int{}) || isTrue(p[1], f, [4]int{}) {
				t.Fatal(p, k, f, e)
			}
			n, e1 := like.Depth(f)
			yes, e2 := like.Holds(p[0], f)
			no, e3 := like.Holds(p[1], f)
			if n > k || !yes || no || e1 != api.OK || e2 != api.OK || e3 != api.OK {
				t.Fatal(p, k, f, n, yes, no)
			}
			s, _ := like.Print(f)
			if repeats(f) {
				t.Fatal(p, k, s)
			}
			if back, e := like.Parse(s); text(back) != text(f) || e != api.OK {
				t.Fatal(s, back, e)
			}
		}
	}
	same(t, text("enough are told apart: ", told), told > 3000, true)
}

func TestTellExamples(t *testing.T) {
	for _, p := range [][2]api.Graph{{path(3), cycle(3)}, {cycle(3), path(3)}, {cycle(6), beside(cycle(3), cycle(3))}, {apart(2), apart(1)}, {apart(1), apart(2)}, {path(2), apart(2)}} {
		for k := range 4 {
			f, e := like.Tell(p[0], p[1], k)
			if won := winOf(t, p[0], p[1], k); won != (e == api.ErrNone) || !won != (e == api.OK) {
				t.Fatal(p, k, f, e)
			}
			if e == api.OK {
				same(t, text(f), isTrue(p[0], f, [4]int{}) && !isTrue(p[1], f, [4]int{}), true)
			}
		}
	}
}

// TestNoFormula is the second part of P9.12: what the second player wins no formula tells
// apart.
func TestNoFormula(t *testing.T) {
	d := dice(47)
	tried := 0
	for _, p := range manyPairs() {
		k := 3
		for !winOf(t, p[0], p[1], k) {
			k--
		}
		if _, e := like.Same(p[0], p[1]); e == api.OK || k == 0 {
			continue
		}
		for range 8 {
			f := someClosed(k, &d)
			yes, e1 := like.Holds(p[0], f)
			no, e2 := like.Holds(p[1], f)
			if yes != no || e1 != api.OK || e2 != api.OK {
				t.Fatal(p, k, f, yes, no, e1, e2)
			}
			tried++
		}
	}
	same(t, "enough are tried", tried > 1000, true)
}
