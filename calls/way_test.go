package calls_test

import (
	"fmt"
	"slices"
	"testing"

	"lampblack/api"
	"lampblack/calls"
)

// TestWayExamples: the examples of the chapter, and others.
func TestWayExamples(t *testing.T) {
	three := log{3, []call{{0, 1, 1}, {1, 2, 2}, {0, 2, 5}}}
	two := log{3, []call{{1, 2, 1}, {0, 1, 2}}}
	// News that comes back to 0, or to 1 twice, is on no way.
	back := talks(3, [2]int{0, 1}, [2]int{0, 1}, [2]int{0, 2})
	round := talks(4, [2]int{0, 1}, [2]int{1, 2}, [2]int{0, 1}, [2]int{2, 1}, [2]int{1, 3})
	for _, x := range []struct {
		l                         log
		s, t                      int
		foremost, fewest, fastest []int // nil if there is no way
		arrive, leave             []int
	}{
		{l: three, s: 0, t: 2, foremost: []int{0, 1}, fewest: []int{2}, fastest: []int{2}, arrive: []int{0, 1, 2}, leave: []int{5, 2, 31}},
		{l: three, s: 2, t: 0, foremost: []int{2}, fewest: []int{2}, fastest: []int{2}, arrive: []int{5, 2, 0}, leave: []int{31, 2, 5}},
		{l: two, s: 0, t: 2, arrive: []int{0, 2, -1}, leave: []int{-1, 1, 31}},
		{l: two, s: 2, t: 0, foremost: []int{0, 1}, fewest: []int{0, 1}, fastest: []int{0, 1}, arrive: []int{2, 1, 0}, leave: []int{31, 2, 1}},
		{l: back, s: 0, t: 2, foremost: []int{2}, fewest: []int{2}, fastest: []int{2}, arrive: []int{0, 1, 3}, leave: []int{3, 2, 31}},
		{l: round, s: 0, t: 3, foremost: []int{0, 4}, fewest: []int{0, 4}, fastest: []int{2, 4}, arrive: []int{0, 1, 2, 5}, leave: []int{3, 5, 4, 31}},
		{l: log{N: 2}, s: 1, t: 0, arrive: []int{-1, 0}, leave: []int{31, -1}},
	} {
		want := api.OK
		if x.foremost == nil {
			want = api.ErrNone
		}
		way, e := calls.Foremost(x.l, x.s, x.t)
		sameText(t, text("Foremost ", x.l), text(way, e), text(x.foremost, want))
		way, e = calls.Fewest(x.l, x.s, x.t)
		sameText(t, text("Fewest ", x.l), text(way, e), text(x.fewest, want))
		way, e = calls.Fastest(x.l, x.s, x.t)
		sameText(t, text("Fastest ", x.l), text(way, e), text(x.fastest, want))
		times, e := calls.Arrive(x.l, x.s)
		sameText(t, text("Arrive ", x.l), text(times, e), text(x.arrive, api.OK))
		times, e = calls.Leave(x.l, x.t)
		sameText(t, text("Leave ", x.l), text(times, e), text(x.leave, api.OK))
	}
}

// TestTimes: Arrive and Leave, against all ways: P6.1. What Foremost, Fewest and Fastest
// return, against all ways: P6.2.
func TestTimes(t *testing.T) {
	for _, l := range manyLogs() {
		for s := range l.N {
			arrive, e1 := calls.Arrive(l, s)
			leave, e2 := calls.Leave(l, s)
			same(t, text(l), e1, api.OK)
			same(t, text(l), e2, api.OK)
			same(t, text(l), len(arrive), l.N)
			same(t, text(l), len(leave), l.N)
			same(t, text(l), arrive[s], 0)
			same(t, text(l), leave[s], 31)
		}
		for _, p := range pairs(l) {
			earliest, latest := -1, -1
			for _, way := range waysOf(l, p[0], p[1]) {
				latest = max(latest, leaves(l, way))
				if earliest == -1 || earliest > arrives(l, way) {
					earliest = arrives(l, way)
				}
			}
			arrive, _ := calls.Arrive(l, p[0])
			leave, _ := calls.Leave(l, p[1])
			same(t, text("Arrive ", p, l), arrive[p[1]], earliest)
			same(t, text("Leave ", p, l), leave[p[0]], latest)
		}
	}
}

// firstOf returns the first one of the ways of which the measure is the least.
func firstOf(ways [][]int, measure func(way []int) int) []int {
	var first []int
	for _, way := range ways {
		if first == nil || measure(way) < measure(first) {
			first = way
		}
	}
	return first
}

// TestBestWays: Foremost, Fewest and Fastest, against all ways: P6.2. Check accepts them,
// and Foremost arrives at Arrive's time: P6.8.
func TestBestWays(t *testing.T) {
	found, none, differ, long := 0, 0, 0, 0
	for _, l := range manyLogs() {
		for _, p := range pairs(l) {
			ways := waysOf(l, p[0], p[1])
			foremost, e1 := calls.Foremost(l, p[0], p[1])
			fewest, e2 := calls.Fewest(l, p[0], p[1])
			fastest, e3 := calls.Fastest(l, p[0], p[1])
			arrive, _ := calls.Arrive(l, p[0])
			if len(ways) == 0 {
				none++
				sameText(t, text("none ", p, l), text(foremost, fewest, fastest, e1, e2, e3), "[] [] [] 4 4 4")
				same(t, text("Arrive ", p, l), arrive[p[1]], -1)
				continue
			}
			found++
			sameText(t, text("OK ", p, l), []api.Errno{e1, e2, e3}, "[0 0 0]")
			sameText(t, text("Foremost ", p, l), foremost, firstOf(ways, func(way []int) int { return arrives(l, way) }))
			sameText(t, text("Fewest ", p, l), fewest, firstOf(ways, func(way []int) int { return len(way) }))
			sameText(t, text("Fastest ", p, l), fastest, firstOf(ways, func(way []int) int { return arrives(l, way) - leaves(l, way) }))
			for _, way := range [][]int{foremost, fewest, fastest} {
				ok, e := calls.Check(l, p[0], p[1], way)
				same(t, text("Check ", p, way, l), text(ok, e), text(true, api.OK))
			}
			same(t, text("arrival ", p, l), arrives(l, foremost), arrive[p[1]])
			if !slices.Equal(foremost, fewest) && !slices.Equal(fewest, fastest) && !slices.Equal(foremost, fastest) {
				differ++
			}
			if len(fewest) > 3 {
				long++
			}
		}
	}
	if found < 5000 || none < 5000 || differ < 80 || long < 30 {
		t.Error("too few of a kind:", found, none, differ, long)
	}
}

// TestCheckAll: Check accepts the ways and nothing else, for all short slices of numbers:
// P6.2.
func TestCheckAll(t *testing.T) {
	var slicesBySize [][][]int
	for size := range 6 {
		list := [][]int{{}}
		for length := 1; length <= 4; length++ {
			list = append(list, slicesOf(length, -1, size)...)
		}
		slicesBySize = append(slicesBySize, list)
	}
	accepted := 0
	for i, l := range smallLogs() {
		if len(l.Calls) > 5 || i%7 != 0 && i > 60 {
			continue
		}
		for _, p := range pairs(l) {
			ways := waysOf(l, p[0], p[1])
			for _, way := range slicesBySize[len(l.Calls)] {
				ok, e := calls.Check(l, p[0], p[1], way)
				_, want := slices.BinarySearchFunc(ways, way, slices.Compare)
				if ok != want || e != api.OK {
					t.Error("Check", l, p, way, ok, e)
				}
				if ok {
					accepted++
				}
			}
		}
	}
	if accepted < 500 {
		t.Error("too few of a kind:", accepted)
	}
}

// spoiled returns slices that are nearly a way.
func spoiled(d *dice, l log, way []int) [][]int {
	list := [][]int{way[1:], way[:len(way)-1], append(slices.Clone(way), way[len(way)-1]), append(slices.Clone(way), way...)}
	turned := slices.Clone(way)
	slices.Reverse(turned)
	list = append(list, turned)
	for range 6 {
		k := d.below(len(way))
		other := slices.Clone(way)
		other[k] = d.between(-1, len(l.Calls))
		list = append(list, other, slices.Insert(slices.Clone(way), k, d.below(len(l.Calls))), slices.Delete(slices.Clone(way), k, k+1))
	}
	for _, number := range extremes {
		list = append(list, append(slices.Clone(way), number), append([]int{number}, way...))
	}
	return list
}

// TestCheckSpoiled: Check accepts all ways of large logs, and of what is nearly one only
// what is one: P6.2. A way backward is none, but for one call.
func TestCheckSpoiled(t *testing.T) {
	d := dice(63)
	accepted, refused := 0, 0
	for _, l := range largeLogs() {
		p := [2]int{0, l.N - 1}
		ways := waysOf(l, p[0], p[1])
		for i, way := range ways {
			ok, e := calls.Check(l, p[0], p[1], way)
			same(t, text("Check ", p, way, l), text(ok, e), "true 0")
			ok, _ = calls.Check(l, p[1], p[0], way)
			same(t, text("Check backward ", p, way, l), ok, len(way) == 1)
			if i%10 != 0 {
				continue
			}
			for _, other := range spoiled(&d, l, way) {
				ok, e := calls.Check(l, p[0], p[1], other)
				_, want := slices.BinarySearchFunc(ways, other, slices.Compare)
				same(t, text("Check ", p, other, l), text(ok, e), text(want, api.OK))
				if ok {
					accepted++
				} else {
					refused++
				}
			}
		}
	}
	if accepted < 100 || refused < 10000 {
		t.Error("too few of a kind:", accepted, refused)
	}
}

// TestCheckAnything: Check judges what is no slice of indices, too, and returns false.
func TestCheckAnything(t *testing.T) {
	l := talks(3, slices.Repeat([][2]int{{0, 1}, {1, 2}}, 12)...)
	rising := make([]int, 1<<20)
	for i := range rising {
		rising[i] = i
	}
	for name, way := range map[string][]int{
		"nil": nil, "empty": {}, "very long": make([]int, 1<<20), "very long and rising": rising, "too long": slices.Repeat([]int{0, 1}, 1<<19),
		"none": {-1}, "too great": {24}, "way and more": append([]int{0, 1}, make([]int, 1<<20)...),
	} {
		ok, e := calls.Check(l, 0, 2, way)
		same(t, name, fmt.Sprint(ok, e), "false 0")
	}
	for _, number := range extremes {
		for _, way := range [][]int{{number}, {0, number}, {number, 1}, {0, 1, number}, {0, number, 1}} {
			ok, e := calls.Check(l, 0, 2, way)
			same(t, text(way), fmt.Sprint(ok, e), "false 0")
		}
	}
	ok, e := calls.Check(log{N: 2}, 0, 1, []int{0})
	same(t, "no calls", fmt.Sprint(ok, e), "false 0")
}

// TestTurn: every call at 31 less its Time, in the order of time, calls of one Time in
// their order: P6.7. Backward twice is forward, and Leave is 31 less Arrive backward, or -1
// where that is: P6.9.
func TestTurn(t *testing.T) {
	l, e := calls.Turn(log{4, []call{{2, 3, 1}, {1, 0, 1}, {1, 2, 7}, {3, 0, 7}, {3, 1, 30}}})
	sameText(t, "Turn", text(l, e), "{4 [{3 1 1} {1 2 24} {3 0 24} {2 3 30} {1 0 30}]} 0")
	for _, l := range manyLogs() {
		back, e := calls.Turn(l)
		want := log{N: l.N}
		for time := 30; time >= 1; time-- {
			for _, c := range l.Calls {
				if c.Time == time {
					want.Calls = append(want.Calls, call{c.A, c.B, 31 - time})
				}
			}
		}
		sameText(t, text("Turn ", l), text(back, e), text(want, api.OK))
		if !isValid(back) {
			t.Error("Turn is not valid", l, back)
		}
		again, e := calls.Turn(back)
		sameText(t, text("Turn twice ", l), text(again, e), text(l, api.OK))
		for p := range l.N {
			arrive, _ := calls.Arrive(back, p)
			for q := range arrive {
				if arrive[q] != -1 {
					arrive[q] = 31 - arrive[q]
				}
			}
			leave, _ := calls.Leave(l, p)
			sameText(t, text("Leave ", p, l), leave, arrive)
		}
	}
}
