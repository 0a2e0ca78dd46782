package chase_test

import (
	"fmt"
	"slices"
	"testing"

	"lampblack/api"
	"lampblack/chase"
)

// player plays a chase by its definition alone, looking a number of moves ahead.
type player struct {
	g     api.Graph
	k     int
	known map[chase.Place][]bool // element m: whether it is caught in at most m moves
}

func newPlayer(g api.Graph, k int) *player {
	return &player{g: g, k: k, known: map[chase.Place][]bool{}}
}

// moves returns where the sweeps can move from a Place, rising.
func (p *player) moves(from chase.Place) [][2]int {
	var list [][2]int
	for a := range p.g {
		for b := range p.g {
			if !near(p.g, from.A, a) || !near(p.g, from.B, b) || p.k == 1 && a != b {
				continue
			}
			if to := [2]int{min(a, b), max(a, b)}; !slices.Contains(list, to) {
				list = append(list, to)
			}
		}
	}
	slices.SortFunc(list, func(x, y [2]int) int { return slices.Compare(x[:], y[:]) })
	return list
}

func (p *player) caught(x chase.Place) bool { return x.Cat == x.A || x.Cat == x.B }

// after returns the Places that can come after a move of the sweeps and one of the cat.
func (p *player) after(to [2]int, cat int) []chase.Place {
	var list []chase.Place
	for v := range p.g {
		if near(p.g, cat, v) {
			list = append(list, chase.Place{A: to[0], B: to[1], Cat: v})
		}
	}
	return list
}

// within reports whether the cat is caught in at most m moves.
func (p *player) within(from chase.Place, m int) bool {
	for len(p.known[from]) <= m {
		p.known[from] = append(p.known[from], p.find(from, len(p.known[from])))
	}
	return p.known[from][m]
}

func (p *player) find(from chase.Place, m int) bool {
	if p.caught(from) {
		return true
	}
	if m == 0 {
		return false
	}
	for _, to := range p.moves(from) {
		if p.caught(chase.Place{A: to[0], B: to[1], Cat: from.Cat}) {
			return true
		}
		if !slices.ContainsFunc(p.after(to, from.Cat), func(x chase.Place) bool { return !p.within(x, m-1) }) {
			return true
		}
	}
	return false
}

// rank looks as many moves ahead as there are Places: more cannot be needed.
func (p *player) rank(from chase.Place) int {
	for m := range len(places(len(p.g), p.k)) + 1 {
		if p.within(from, m) {
			return m
		}
	}
	return -1
}

// ranks returns the rank of every Place.
func (p *player) ranks() map[chase.Place]int {
	list := map[chase.Place]int{}
	for _, x := range places(len(p.g), p.k) {
		list[x] = p.rank(x)
	}
	return list
}

// start returns the first best choice, and the number of rounds or -1.
func (p *player) start(ranks map[chase.Place]int) ([2]int, int) {
	start, least := [2]int{}, -1
	for a := range p.g {
		for b := a; b < len(p.g); b++ {
			if p.k == 1 && a != b {
				continue
			}
			worst := 0
			for cat := range p.g {
				r := ranks[chase.Place{A: a, B: b, Cat: cat}]
				if r < 0 || worst < 0 {
					worst = -1
				} else {
					worst = max(worst, r)
				}
			}
			if worst >= 0 && (least < 0 || worst < least) {
				start, least = [2]int{a, b}, worst
			}
		}
	}
	return start, least
}

// move returns the first best move by the ranks.
func (p *player) move(from chase.Place, ranks map[chase.Place]int) ([2]int, bool) {
	if ranks[from] <= 0 {
		return [2]int{}, false
	}
	for _, to := range p.moves(from) {
		caught := p.caught(chase.Place{A: to[0], B: to[1], Cat: from.Cat})
		if caught || !slices.ContainsFunc(p.after(to, from.Cat), func(x chase.Place) bool {
			return ranks[x] < 0 || ranks[x] >= ranks[from]
		}) {
			return to, true
		}
	}
	return [2]int{}, false
}

// safe reports by the definition whether a slice of Places is safe.
func (p *player) safe(l []chase.Place) bool {
	for _, from := range l {
		if p.caught(from) {
			return false
		}
		for _, to := range p.moves(from) {
			if p.caught(chase.Place{A: to[0], B: to[1], Cat: from.Cat}) {
				return false
			}
			if !slices.ContainsFunc(p.after(to, from.Cat), func(x chase.Place) bool {
				return !p.caught(x) && slices.Contains(l, x)
			}) {
				return false
			}
		}
	}
	for _, x := range places(len(p.g), p.k) {
		if !slices.ContainsFunc(l, func(y chase.Place) bool { return x.A == y.A && x.B == y.B }) {
			return false
		}
	}
	return len(l) > 0
}

// playedGraphs are small enough for a player that looks ahead.
func playedGraphs() []api.Graph {
	list := smallGraphs()
	for n := 6; n <= 8; n++ {
		list = append(list, someGraphs(n, 6)...)
		list = append(list, path(n), cycle(n))
	}
	return append(list, cube())
}

// TestPlayed compares ranks, rounds, starts and moves with those of the player.
func TestPlayed(t *testing.T) {
	for i, g := range playedGraphs() {
		comparePlayed(t, g, 1)
		if len(g) < 5 || i%4 == 0 { // two sweeps are slow: some of the larger graphs are enough
			comparePlayed(t, g, 2)
		}
	}
	for _, g := range []api.Graph{path(8), cycle(7), cycle(8), cube()} {
		comparePlayed(t, g, 2)
	}
}

func comparePlayed(t *testing.T, g api.Graph, k int) {
	p := newPlayer(g, k)
	ranks := p.ranks()
	for _, x := range places(len(g), k) {
		if r, e := chase.Rank(g, k, x); r != ranks[x] || e != api.OK {
			t.Fatal("Rank", g, k, x, r, e, ranks[x])
		}
		want, found := p.move(x, ranks)
		wantErr := api.OK
		if !found {
			wantErr = api.ErrNone
		}
		if to, e := chase.Move(g, k, x); to != want || e != wantErr {
			t.Fatal("Move", g, k, x, to, e, want)
		}
	}
	start, rounds := p.start(ranks)
	wantErr := api.OK
	if rounds < 0 {
		rounds, wantErr = 0, api.ErrNone
	}
	if n, e := chase.Rounds(g, k); n != rounds || e != wantErr {
		t.Fatal("Rounds", g, k, n, e, rounds)
	}
	if s, e := chase.Start(g, k); s != start || e != wantErr {
		t.Fatal("Start", g, k, s, e, start)
	}
}

func TestRankExamples(t *testing.T) {
	table := []struct {
		name string
		g    api.Graph
		k    int
		p    chase.Place
		want int
	}{
		{"path", path(3), 1, chase.Place{A: 0, B: 0, Cat: 2}, 2},
		{"caught", path(3), 1, chase.Place{A: 1, B: 1, Cat: 1}, 0},
		{"beside it", path(3), 1, chase.Place{A: 1, B: 1, Cat: 0}, 1},
		{"one node", path(1), 1, chase.Place{}, 0},
		{"one node and two sweeps", path(1), 2, chase.Place{}, 0},
		{"opposite", cycle(4), 1, chase.Place{A: 0, B: 0, Cat: 2}, -1},
		{"beside it on a cycle", cycle(4), 1, chase.Place{A: 0, B: 0, Cat: 1}, 1},
		{"caught on a cycle", cycle(4), 1, chase.Place{A: 2, B: 2, Cat: 2}, 0},
		{"by the second sweep", cycle(4), 2, chase.Place{A: 0, B: 2, Cat: 2}, 0},
		{"by the first sweep", cycle(4), 2, chase.Place{A: 0, B: 2, Cat: 0}, 0},
		{"two on one node", cycle(4), 2, chase.Place{A: 0, B: 0, Cat: 2}, 2},
		{"from end to end", path(8), 1, chase.Place{A: 0, B: 0, Cat: 7}, 7},
	}
	for _, row := range table {
		r, e := chase.Rank(row.g, row.k, row.p)
		same(t, row.name, r, row.want)
		same(t, row.name, e, api.OK)
	}
}

func TestRoundsExamples(t *testing.T) {
	table := []struct {
		name  string
		g     api.Graph
		k     int
		want  int
		start [2]int
		e     api.Errno
	}{
		{"path", path(3), 1, 1, [2]int{1, 1}, api.OK},
		{"one node", path(1), 1, 0, [2]int{0, 0}, api.OK},
		{"one node and two sweeps", path(1), 2, 0, [2]int{0, 0}, api.OK},
		{"two nodes", path(2), 1, 1, [2]int{0, 0}, api.OK},
		{"two nodes and two sweeps", path(2), 2, 0, [2]int{0, 1}, api.OK},
		{"path of four", path(4), 1, 2, [2]int{1, 1}, api.OK},
		{"path of four and two sweeps", path(4), 2, 1, [2]int{0, 2}, api.OK},
		{"path of eight", path(8), 1, 4, [2]int{3, 3}, api.OK},
		{"all neighbours", complete(8), 1, 1, [2]int{0, 0}, api.OK},
		{"all neighbours and two sweeps", complete(8), 2, 1, [2]int{0, 0}, api.OK},
		{"star of five", star(5), 1, 1, [2]int{0, 0}, api.OK},
		{"cycle of four", cycle(4), 1, 0, [2]int{}, api.ErrNone},
		{"cycle of four and two sweeps", cycle(4), 2, 1, [2]int{0, 1}, api.OK},
		{"cube", cube(), 1, 0, [2]int{}, api.ErrNone},
	}
	for _, row := range table {
		n, e := chase.Rounds(row.g, row.k)
		same(t, row.name, n, row.want)
		same(t, row.name, e, row.e)
		s, e := chase.Start(row.g, row.k)
		same(t, row.name, s, row.start)
		same(t, row.name, e, row.e)
	}
}

func TestMoveExamples(t *testing.T) {
	table := []struct {
		name string
		g    api.Graph
		k    int
		p    chase.Place
		want [2]int
		e    api.Errno
	}{
		{"path", path(3), 1, chase.Place{A: 0, B: 0, Cat: 2}, [2]int{1, 1}, api.OK},
		{"on it", path(3), 1, chase.Place{A: 1, B: 1, Cat: 2}, [2]int{2, 2}, api.OK},
		{"caught", path(3), 1, chase.Place{A: 2, B: 2, Cat: 2}, [2]int{}, api.ErrNone},
		{"caught by one of two", path(3), 2, chase.Place{A: 0, B: 2, Cat: 2}, [2]int{}, api.ErrNone},
		{"escaped", cycle(4), 1, chase.Place{A: 0, B: 0, Cat: 2}, [2]int{}, api.ErrNone},
		{"second on it", path(3), 2, chase.Place{A: 1, B: 1, Cat: 2}, [2]int{0, 2}, api.OK},
		{"crossing", cycle(4), 2, chase.Place{A: 0, B: 1, Cat: 2}, [2]int{0, 2}, api.OK},
		{"first beyond the second", cycle(4), 2, chase.Place{A: 0, B: 1, Cat: 3}, [2]int{0, 3}, api.OK},
	}
	for _, row := range table {
		to, e := chase.Move(row.g, row.k, row.p)
		same(t, row.name, to, row.want)
		same(t, row.name, e, row.e)
	}
}

// follow returns the most moves after which the cat is caught when the sweeps follow
// Move; it stops above a limit.
func follow(g api.Graph, k int, p chase.Place, limit int, to map[chase.Place][2]int) int {
	if p.Cat == p.A || p.Cat == p.B {
		return 0
	}
	next, ok := to[p]
	if !ok || limit <= 0 {
		return 1 << 20
	}
	if p.Cat == next[0] || p.Cat == next[1] {
		return 1
	}
	most := 0
	for cat := range g {
		if near(g, p.Cat, cat) {
			most = max(most, follow(g, k, chase.Place{A: next[0], B: next[1], Cat: cat}, limit-1, to))
		}
	}
	return 1 + most
}

// TestFollowMoves is P1.9.
func TestFollowMoves(t *testing.T) {
	list := append(allGraphs(4), someGraphs(5, 30)...)
	list = append(list, someGraphs(7, 10)...)
	for _, g := range append(list, path(8), cycle(8), cube(), wheel(8)) {
		for k := 1; k <= 2; k++ {
			to, ranks := map[chase.Place][2]int{}, map[chase.Place]int{}
			for _, p := range places(len(g), k) {
				ranks[p], _ = chase.Rank(g, k, p)
				if m, e := chase.Move(g, k, p); e == api.OK {
					to[p] = m
				}
			}
			for p, r := range ranks {
				if r > 0 && follow(g, k, p, r, to) > r {
					t.Fatal(g, k, p, r)
				}
			}
		}
	}
}

// TestOneOrTheOther is P1.6 and P1.8: safe places are there just if the cat escapes.
func TestOneOrTheOther(t *testing.T) {
	for _, g := range manyGraphs() {
		for k := 1; k <= 2; k++ {
			_, rounds := chase.Rounds(g, k)
			l, safe := chase.Safe(g, k)
			ok, e := chase.CheckSafe(g, k, l)
			switch {
			case rounds == api.OK && safe == api.ErrNone && len(l) == 0 && !ok && e == api.OK:
			case rounds == api.ErrNone && safe == api.OK && ok && e == api.OK && newPlayer(g, k).safe(l):
			default:
				t.Fatal(g, k, rounds, safe, l, ok, e)
			}
		}
	}
}

// TestSafeOfFour: on a cycle of four there are no other safe places.
func TestSafeOfFour(t *testing.T) {
	l, e := chase.Safe(cycle(4), 1)
	same(t, "error", e, api.OK)
	for cat, sweep := range []int{2, 3, 0, 1} {
		if !slices.Contains(l, chase.Place{A: sweep, B: sweep, Cat: cat}) {
			t.Error("without", sweep, cat)
		}
	}
	for _, p := range l {
		if p.A != p.B || p.A^p.Cat != 2 {
			t.Error(p)
		}
	}
}

// TestCheckSafeAll tries every set of Places of small graphs.
func TestCheckSafeAll(t *testing.T) {
	try := func(g api.Graph, k int) (accepted int) {
		p := newPlayer(g, k)
		all := places(len(g), k)
		for set := range 1 << len(all) {
			var l []chase.Place
			for i, x := range all {
				if set>>i&1 == 1 {
					l = append(l, x)
				}
			}
			ok, e := chase.CheckSafe(g, k, l)
			if ok != p.safe(l) || e != api.OK {
				t.Fatal(g, k, l, ok, e)
			}
			if ok {
				accepted++
			}
		}
		return accepted
	}
	for n := 1; n <= 3; n++ {
		for _, g := range allGraphs(n) {
			same(t, fmt.Sprint(g), try(g, 1), 0)
		}
	}
	same(t, "one node", try(path(1), 2), 0)
	same(t, "two nodes", try(path(2), 2), 0)
	same(t, "cycle of four", try(cycle(4), 1), 1)
	same(t, "star of four", try(star(4), 1), 0)
}

// TestCheckSafeParts leaves places away from safe ones, one by one and all of a sweep.
func TestCheckSafeParts(t *testing.T) {
	for _, g := range []api.Graph{cycle(5), cycle(6), cycle(8), cube()} {
		p := newPlayer(g, 1)
		l, _ := chase.Safe(g, 1)
		for i := range l {
			part := slices.Delete(slices.Clone(l), i, i+1)
			if ok, _ := chase.CheckSafe(g, 1, part); ok != p.safe(part) {
				t.Error(g, i, ok)
			}
		}
		for v := range g {
			part := slices.DeleteFunc(slices.Clone(l), func(x chase.Place) bool { return x.A == v })
			if ok, _ := chase.CheckSafe(g, 1, part); ok {
				t.Error(g, "without sweep", v)
			}
		}
	}
}

// TestCheckSafeOrder: the order and repetitions do not count.
func TestCheckSafeOrder(t *testing.T) {
	g := cycle(6)
	l, _ := chase.Safe(g, 1)
	slices.Reverse(l)
	l = append(l, l...)
	if ok, e := chase.CheckSafe(g, 1, l); !ok || e != api.OK {
		t.Error(ok, e)
	}
}

// TestCheckSafeOther: what is no safe Place is false, and no error.
func TestCheckSafeOther(t *testing.T) {
	g := cycle(4)
	l := []chase.Place{{A: 0, B: 0, Cat: 2}, {A: 1, B: 1, Cat: 3}, {A: 2, B: 2, Cat: 0}, {A: 3, B: 3, Cat: 1}}
	if ok, e := chase.CheckSafe(g, 1, l); !ok || e != api.OK {
		t.Error(ok, e)
	}
	for _, p := range []chase.Place{
		{A: 0, B: 0, Cat: 0}, {A: 0, B: 0, Cat: 1}, {A: 0, B: 2, Cat: 1}, {A: 2, B: 0, Cat: 1}, {A: 0, B: 0, Cat: 4}, {A: 0, B: 0, Cat: -1},
		{A: 4, B: 4, Cat: 2}, {A: -1, B: -1, Cat: 2}, {A: 0, B: 0, Cat: 1 << 62}, {A: -1 << 63, B: -1 << 63, Cat: 64},
	} {
		ok, e := chase.CheckSafe(g, 1, append(slices.Clone(l), p))
		same(t, fmt.Sprint(p), ok, false)
		same(t, fmt.Sprint(p), e, api.OK)
	}
	for k := 1; k <= 2; k++ {
		for _, none := range [][]chase.Place{nil, {}} {
			ok, e := chase.CheckSafe(g, k, none)
			same(t, "none", ok, false)
			same(t, "none", e, api.OK)
		}
	}
	if ok, e := chase.CheckSafe(g, 2, l); ok || e != api.OK {
		t.Error("two sweeps", ok, e)
	}
}

// TestTwo is P1.10.
func TestTwo(t *testing.T) {
	for _, g := range manyGraphs() {
		one, e1 := chase.Rounds(g, 1)
		two, e2 := chase.Rounds(g, 2)
		if e2 != api.OK || e1 == api.OK && two > one {
			t.Fatal(g, one, e1, two, e2)
		}
	}
}

// TestRenaming is P1.12.
func TestRenaming(t *testing.T) {
	all := orders(5)
	for i, g := range append(allGraphs(5), cycle(5), wheel(5)) {
		for j := i % 11; j < len(all); j += 11 {
			h := renamed(g, all[j])
			for k := 1; k <= 2; k++ {
				n, e := chase.Rounds(g, k)
				if m, f := chase.Rounds(h, k); n != m || e != f {
					t.Fatal(g, h, k, n, m)
				}
			}
			a, _ := chase.Core(g)
			b, _ := chase.Core(h)
			if len(nodesOf(a)) != len(nodesOf(b)) {
				t.Fatal(g, h, a, b)
			}
		}
	}
}
