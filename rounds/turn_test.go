package rounds_test

import (
	"fmt"
	"math"
	"slices"
	"testing"

	"lampblack/api"
	"lampblack/rounds"
)

func TestTurnsExamples(t *testing.T) {
	two := table{4, 2, []span{{0, 1, 1, 1}, {1, 0, 1, 2}}}
	three := table{3, 3, []span{{0, 1, 1, 4}, {1, 2, 0, 2}, {2, 0, 5, 9}, {0, 2, 2, 2}, {1, 0, 11, 22}, {0, 1, 0, 11}}}
	for _, c := range []struct {
		t               table
		cycle           []int
		least, greatest int
		e               api.Errno
	}{
		{two, []int{1, 2}, 0, 0, api.ErrNone},                                         // 2 to 3
		{two, []int{2, 1}, 0, 0, api.ErrNone},                                         // 2 to 3
		{two, []int{-1, -2}, 0, 0, api.ErrNone},                                       // -3 to -2
		{table{2, 2, two.Spans}, []int{1, 2}, 1, 1, api.OK},                           // 2 to 3
		{table{3, 2, two.Spans}, []int{1, 2}, 1, 1, api.OK},                           // 2 to 3
		{table{3, 2, two.Spans}, []int{-2, -1}, -1, -1, api.OK},                       // -3 to -2
		{table{1, 2, two.Spans}, []int{1, 2}, 2, 3, api.OK},                           // 2 to 3
		{table{1, 2, two.Spans}, []int{-1, -2}, -3, -2, api.OK},                       // -3 to -2
		{three, []int{1, 2, 3}, 2, 5, api.OK},                                         // 6 to 15
		{three, []int{2, 3, 1}, 2, 5, api.OK},                                         // 6 to 15
		{three, []int{-3, -2, -1}, -5, -2, api.OK},                                    // -15 to -6
		{three, []int{1, 2, -4}, 0, 1, api.OK},                                        // -1 to 4
		{three, []int{4, -2, -1}, -1, 0, api.OK},                                      // -4 to 1
		{three, []int{1, -6}, -3, 1, api.OK},                                          // -10 to 4
		{three, []int{6, -1}, -1, 3, api.OK},                                          // -4 to 10
		{three, []int{1, 5}, 4, 8, api.OK},                                            // 12 to 26
		{three, []int{1, 5, 4, 3}, 7, 12, api.OK},                                     // 19 to 37
		{three, []int{1, 5, 6, 2, 3}, 6, 16, api.OK},                                  // 17 to 48
		{table{5, 2, []span{{0, 1, 3, 3}, {0, 1, 3, 3}}}, []int{1, -2}, 0, 0, api.OK}, // 0 to 0
		{table{5, 2, []span{{0, 1, 3, 3}, {0, 1, 2, 2}}}, []int{1, -2}, 0, 0, api.ErrNone},
	} {
		least, greatest, e := rounds.Turns(c.t, c.cycle)
		sameText(t, fmt.Sprint(c.t, c.cycle), []int{least, greatest}, []int{c.least, c.greatest})
		same(t, fmt.Sprint(c.t, c.cycle), e, c.e)
	}
}

func TestNoCycle(t *testing.T) {
	tab := table{3, 4, []span{{0, 1, 1, 4}, {1, 2, 0, 2}, {2, 0, 5, 9}, {0, 2, 2, 2}, {1, 0, 1, 2}, {2, 3, 0, 0}}}
	list := [][]int{
		nil, {}, {0}, {1}, {-1}, {6}, {1, 2}, {1, 2, 4}, {1, 3, 2}, {1, 2, -3}, {1, -2, 3}, {1, 2, 3, 6}, {6, 1, 2, 3},
		{1, -1}, {1, 1}, {-1, 1}, {-1, -1}, {6, -6}, {1, 5, 1, 5}, {1, 5, -5, -1}, {1, 2, 3, 1, 2, 3}, {1, 5, 1, 2, 3},
		{0, 1, 5}, {1, 0, 5}, {1, 5, 0}, {7, -7}, {1, 5, 7}, {1, 5, -7}, {5, 2}, {4, 5}, make([]int, 1<<20), slices.Repeat([]int{1, 5}, 7),
	}
	for _, number := range extremes {
		list = append(list, []int{number}, []int{1, number}, []int{number, 5}, []int{1, 2, number}, []int{number, number})
	}
	for _, cycle := range list {
		name := fmt.Sprint(len(cycle), cycle[:min(len(cycle), 14)])
		least, greatest, e := rounds.Turns(tab, cycle)
		same(t, name, least, 0)
		same(t, name, greatest, 0)
		same(t, name, e, api.ErrArg)
	}
	for _, cycle := range [][]int{nil, {0}, {1}, {-1}, {1, 2}, {math.MinInt}} {
		_, _, e := rounds.Turns(table{Period: 3, Events: 2}, cycle)
		same(t, fmt.Sprint(cycle), e, api.ErrArg)
	}
}

// isCycle reports whether a slice is a cycle, by the definition.
func isCycle(t table, cycle []int) bool {
	used := map[int]bool{}
	var walk [][2]int
	for _, number := range cycle {
		i := max(number, -number) - 1
		if i < 0 || i >= len(t.Spans) || used[i] {
			return false
		}
		used[i] = true
		ends := [2]int{t.Spans[i].From, t.Spans[i].To}
		if number < 0 {
			ends = [2]int{ends[1], ends[0]}
		}
		walk = append(walk, ends)
	}
	for i := range walk {
		if walk[i][1] != walk[(i+1)%len(walk)][0] {
			return false
		}
	}
	return len(cycle) > 0
}

// turnsOf returns the least and the greatest number of periods of a cycle, by trying all
// numbers, or false if there is none.
func turnsOf(t table, cycle []int) (int, int, bool) {
	low, high := 0, 0
	for _, number := range cycle {
		if number > 0 {
			low += t.Spans[number-1].Low
			high += t.Spans[number-1].High
		} else {
			low -= t.Spans[-number-1].High
			high -= t.Spans[-number-1].Low
		}
	}
	var found []int
	for m := -300; m <= 300; m++ {
		if low <= t.Period*m && t.Period*m <= high {
			found = append(found, m)
		}
	}
	if len(found) == 0 {
		return 0, 0, false
	}
	return found[0], found[len(found)-1], true
}

// cyclesOf returns at most some thousand cycles of a Table.
func cyclesOf(t table) [][]int {
	var list [][]int
	var extend func(walk []int)
	extend = func(walk []int) {
		if len(list) > 3000 {
			return
		}
		if isCycle(t, walk) {
			list = append(list, walk)
		}
		for number := -len(t.Spans); number <= len(t.Spans); number++ {
			if number != 0 && !slices.Contains(walk, number) && !slices.Contains(walk, -number) && follows(t, walk, number) {
				extend(append(slices.Clone(walk), number))
			}
		}
	}
	extend(nil)
	return list
}

// follows reports whether a Span begins where a walk ends.
func follows(t table, walk []int, number int) bool {
	if len(walk) == 0 {
		return true
	}
	end := func(number int, last bool) int {
		s := t.Spans[max(number, -number)-1]
		if (number > 0) == last {
			return s.To
		}
		return s.From
	}
	return end(walk[len(walk)-1], true) == end(number, false)
}

// TestTurns is P5.8 and a part of P5.14, for the cycles of many tables.
func TestTurns(t *testing.T) {
	refuted, longest := 0, 0
	for _, tab := range append(smallTables(), largeTables()...) {
		_, right := rounds.Timetable(tab)
		for _, cycle := range cyclesOf(tab) {
			longest = max(longest, len(cycle))
			least, greatest, e := rounds.Turns(tab, cycle)
			wantLeast, wantGreatest, ok := turnsOf(tab, cycle)
			if least != wantLeast || greatest != wantGreatest || (e == api.OK) != ok || (e == api.ErrNone) == ok {
				t.Fatal(tab, cycle, least, greatest, e)
			}
			if e == api.ErrNone {
				refuted++
				if right != api.ErrNone {
					t.Fatal(tab, cycle, right)
				}
			}
		}
	}
	if refuted < 1000 || longest != 12 {
		t.Error("too few of a kind:", refuted, longest)
	}
}

// TestTurnsOfAll: all slices of at most 4 numbers, whether they are cycles or not.
func TestTurnsOfAll(t *testing.T) {
	d := dice(21)
	cycles := 0
	for range 60 {
		tab := someTable(&d, 12, 4, 5)
		count := len(tab.Spans) + 1
		for n := range 5 {
			for _, cycle := range slicesOf(n, -count, count) {
				least, greatest, e := rounds.Turns(tab, cycle)
				if isCycle(tab, cycle) {
					cycles++
				} else if e != api.ErrArg || least != 0 || greatest != 0 {
					t.Fatal(tab, cycle, least, greatest, e)
				}
				if isCycle(tab, cycle) == (e == api.ErrArg) {
					t.Fatal(tab, cycle, e)
				}
			}
		}
	}
	if cycles < 100 {
		t.Error("too few:", cycles)
	}
}
