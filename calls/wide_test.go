package calls_test

import (
	"slices"
	"testing"

	"lampblack/api"
	"lampblack/calls"
)

// track is what of a way in time is in another one, too: its calls, and its people but the
// first and the last one.
type track struct{ calls, people int }

// tracksOf returns the tracks of all ways in time from s to t.
func tracksOf(l log, s, t int) []track {
	var list []track
	for _, way := range waysOf(l, s, t) {
		people := 0
		for _, i := range way {
			people |= 1<<l.Calls[i].A | 1<<l.Calls[i].B
		}
		list = append(list, track{callsOf(way), people &^ (1<<s | 1<<t)})
	}
	return list
}

func areWideApart(a, b track) bool { return a.calls&b.calls == 0 && a.people&b.people == 0 }

// blockOf returns, of the sets of people without s and t that have somebody of each track,
// the least one of those with the fewest, or false if there is none.
func blockOf(l log, s, t int) (int, bool) {
	tracks := tracksOf(l, s, t)
	for number := range l.N + 1 {
		for set := range 1 << l.N {
			missed := func(x track) bool { return x.people&set == 0 }
			if count(set) == number && !has(set, s) && !has(set, t) && !slices.ContainsFunc(tracks, missed) {
				return set, true
			}
		}
	}
	return 0, false
}

// haveCall reports whether two people have a call with each other.
func haveCall(l log, s, t int) bool {
	return slices.ContainsFunc(l.Calls, func(c call) bool { return c.A == s && c.B == t || c.A == t && c.B == s })
}

// TestWideExamples: small logs, and one in which Wide and Block differ: P6.12.
func TestWideExamples(t *testing.T) {
	three := log{3, []call{{0, 1, 1}, {1, 2, 2}, {0, 2, 5}}}
	twice := talks(4, [2]int{0, 1}, [2]int{0, 2}, [2]int{1, 3}, [2]int{2, 3})
	for _, x := range []struct {
		l           log
		s, t        int
		wide, block string
	}{
		{three, 0, 2, "2 0", "0 4"}, {three, 2, 0, "1 0", "0 4"}, {three, 1, 0, "2 0", "0 4"},
		{log{3, []call{{1, 2, 1}, {0, 1, 2}}}, 0, 2, "0 0", "0 0"}, {log{3, []call{{1, 2, 1}, {0, 1, 2}}}, 2, 0, "1 0", "2 0"},
		{twice, 0, 3, "2 0", "6 0"}, {twice, 3, 0, "0 0", "0 0"}, {twice, 1, 2, "2 0", "9 0"}, {twice, 2, 1, "0 0", "0 0"},
		{knot(), 0, 4, "1 0", "6 0"}, {knot(), 4, 0, "1 0", "4 0"}, {log{N: 7}, 3, 5, "0 0", "0 0"},
		// Both of the ways through 1 have it in common, both direct calls nothing.
		{talks(3, [2]int{0, 1}, [2]int{0, 1}, [2]int{1, 2}, [2]int{1, 2}), 0, 2, "1 0", "2 0"},
		{talks(3, [2]int{0, 1}, [2]int{1, 2}, [2]int{2, 0}, [2]int{0, 2}), 0, 2, "3 0", "0 4"},
		// A call that is too late for a way is a call all the same.
		{talks(2, [2]int{1, 0}), 0, 1, "1 0", "0 4"},
	} {
		wide, e := calls.Wide(x.l, x.s, x.t)
		sameText(t, text("Wide ", x.s, x.t, x.l), text(wide, e), x.wide)
		block, e := calls.Block(x.l, x.s, x.t)
		sameText(t, text("Block ", x.s, x.t, x.l), text(block, e), x.block)
	}
}

// TestWide: Wide, against all sets of ways, and Block, against all sets of people: P6.6.
// Wide is at most the number of people in Block; it may be less: P6.12.
func TestWide(t *testing.T) {
	equal, less, direct, number := 0, 0, 0, make([]int, 25)
	for _, l := range manyLogs() {
		for _, p := range pairs(l) {
			wide, e := calls.Wide(l, p[0], p[1])
			want := mostOf(tracksOf(l, p[0], p[1]), areWideApart)
			sameText(t, text("Wide ", p, l), text(wide, e), text(want, api.OK))
			number[wide]++
			block, e := calls.Block(l, p[0], p[1])
			if haveCall(l, p[0], p[1]) {
				direct++
				sameText(t, text("Block ", p, l), text(block, e), text(0, api.ErrNone))
				continue
			}
			set, ok := blockOf(l, p[0], p[1])
			same(t, text("there is a block ", p, l), ok, true)
			sameText(t, text("Block ", p, l), text(block, e), text(set, api.OK))
			switch {
			case wide > count(block):
				t.Error("Wide", wide, "is more than Block", block, "of", p, l)
			case wide == count(block):
				equal++
			default:
				less++
			}
		}
	}
	if equal < 5000 || less < 100 || direct < 5000 {
		t.Error("too few of a kind:", equal, less, direct)
	}
	for i, least := range []int{5000, 5000, 1000, 100, 50, 10} {
		if number[i] < least {
			t.Error("too few of a kind:", number)
		}
	}
}

// TestKnots: logs in which Wide is less than Block, with more and more people beside.
func TestKnots(t *testing.T) {
	for beside := range 3 {
		l := log{N: 5 + beside}
		for _, c := range knot().Calls {
			l.Calls = append(l.Calls, call{c.A, c.B, 3 * c.Time})
		}
		for p := 5; p < l.N; p++ {
			l.Calls = append(l.Calls, call{0, p, p}, call{p, 4, 17 + p})
		}
		l = inTime(l)
		wide, _ := calls.Wide(l, 0, 4)
		block, _ := calls.Block(l, 0, 4)
		same(t, text("Wide ", l), wide, 1+beside)
		same(t, text("Block ", l), block, 6+(1<<beside-1)<<5)
	}
}

// TestMore: a call more never makes an arrival later, nor Wide less: P6.13.
func TestMore(t *testing.T) {
	d := dice(66)
	earlier, wider := 0, 0
	for _, l := range manyLogs() {
		if l.N == 1 || len(l.Calls) == 24 || len(l.Calls) > 3 && d.below(3) > 0 {
			continue
		}
		for range 5 {
			a := d.below(l.N)
			c := call{a, (a + d.between(1, l.N-1)) % l.N, d.between(1, 30)}
			if len(l.Calls) > 0 && d.below(2) == 0 {
				c.Time = l.Calls[d.below(len(l.Calls))].Time
			}
			if !mayCall(l, c) {
				continue
			}
			more := inTime(log{l.N, slices.Insert(slices.Clone(l.Calls), d.below(len(l.Calls)+1), c)})
			for s := range l.N {
				before, _ := calls.Arrive(l, s)
				after, e := calls.Arrive(more, s)
				same(t, text("Arrive ", more), e, api.OK)
				for p := range before {
					if after[p] == -1 && before[p] != -1 || before[p] != -1 && after[p] > before[p] {
						t.Error("Arrive", s, before, after, l, c)
					}
					if after[p] != before[p] {
						earlier++
					}
				}
			}
			for _, p := range pairs(l) {
				before, _ := calls.Wide(l, p[0], p[1])
				after, e := calls.Wide(more, p[0], p[1])
				same(t, text("Wide ", more), e, api.OK)
				if after < before {
					t.Error("Wide", p, before, after, l, c)
				}
				if after > before {
					wider++
				}
			}
		}
	}
	if earlier < 1000 || wider < 1000 {
		t.Error("too few of a kind:", earlier, wider)
	}
}
