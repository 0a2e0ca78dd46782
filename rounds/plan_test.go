package rounds_test

import (
	"fmt"
	"math/bits"
	"slices"
	"testing"

	"lampblack/api"
	"lampblack/rounds"
)

func TestTimetableExamples(t *testing.T) {
	for _, c := range []struct {
		t     table
		times string
		blame int
	}{
		{table{4, 2, []span{{0, 1, 1, 1}, {1, 0, 1, 2}}}, "", 3},
		{table{4, 2, []span{{0, 1, 1, 1}, {1, 0, 1, 3}}}, "[0 1]", 0},
		{table{4, 2, []span{{0, 1, 1, 2}, {1, 0, 1, 2}}}, "[0 2]", 0},
		{table{1, 1, nil}, "[0]", 0},
		{table{12, 1, nil}, "[0]", 0},
		{table{12, 6, nil}, "[0 0 0 0 0 0]", 0},
		{table{1, 2, []span{{0, 1, 11, 11}, {1, 0, 7, 7}}}, "[0 0]", 0},
		// Low and High may be above the period.
		{table{4, 2, []span{{0, 1, 11, 11}}}, "[0 3]", 0},
		{table{4, 2, []span{{1, 0, 11, 11}}}, "[0 1]", 0},
		{table{5, 2, []span{{0, 1, 11, 22}}}, "[0 0]", 0},
		{table{12, 2, []span{{0, 1, 11, 22}}}, "[0 0]", 0},
		{table{12, 2, []span{{0, 1, 11, 21}}}, "[0 0]", 0},
		{table{12, 2, []span{{0, 1, 1, 11}}}, "[0 1]", 0},
		{table{12, 2, []span{{0, 1, 1, 12}}}, "[0 0]", 0},
		{table{12, 2, []span{{1, 0, 3, 5}}}, "[0 7]", 0},
		// The first event comes first, the last one last.
		{table{3, 3, []span{{0, 2, 1, 2}, {1, 2, 0, 0}}}, "[0 1 1]", 0},
		{table{3, 3, []span{{0, 2, 1, 2}, {2, 1, 1, 2}}}, "[0 0 1]", 0},
		{table{5, 3, []span{{0, 1, 1, 1}, {1, 2, 1, 1}, {2, 0, 1, 1}}}, "", 7},
		{table{3, 3, []span{{0, 1, 1, 1}, {1, 2, 1, 1}, {2, 0, 1, 1}}}, "[0 1 2]", 0},
		// Of the smallest sets the one that is the least number.
		{table{6, 2, []span{{0, 1, 1, 1}, {0, 1, 1, 2}, {0, 1, 2, 2}}}, "", 5},
		{table{6, 2, []span{{0, 1, 2, 2}, {0, 1, 1, 2}, {0, 1, 1, 1}, {0, 1, 3, 3}}}, "", 5},
		{table{6, 3, []span{{0, 1, 1, 1}, {1, 2, 1, 1}, {0, 2, 3, 3}, {2, 1, 5, 5}, {1, 0, 4, 4}}}, "", 17},
		{table{12, 6, []span{{0, 1, 2, 2}, {1, 2, 2, 2}, {2, 3, 2, 2}, {3, 4, 2, 2}, {4, 5, 2, 2}, {5, 0, 1, 1}}}, "", 63},
		{table{12, 6, []span{{0, 1, 2, 2}, {1, 2, 2, 2}, {2, 3, 2, 2}, {3, 4, 2, 2}, {4, 5, 2, 2}, {5, 0, 2, 2}}}, "[0 2 4 6 8 10]", 0},
	} {
		name := fmt.Sprint(c.t)
		times, e := rounds.Timetable(c.t)
		blame, f := rounds.Blame(c.t)
		same(t, name, blame, c.blame)
		if c.times == "" {
			same(t, name, len(times), 0)
			same(t, name, e, api.ErrNone)
			same(t, name, f, api.OK)
			continue
		}
		sameText(t, name, times, c.times)
		same(t, name, e, api.OK)
		same(t, name, f, api.ErrNone)
	}
}

// firstOf returns the first timetable that keeps all Spans of a set, by trying all of them,
// or nil if there is none.
func firstOf(t table, set int) []int {
	for _, times := range slicesOf(t.Events, 0, t.Period-1) {
		if keptBy(t, times)&set == set {
			return times
		}
	}
	return nil
}

// TestTimetables is P5.6, against all timetables of small tables.
func TestTimetables(t *testing.T) {
	right := 0
	list := smallTables()
	for _, tab := range list {
		want := firstOf(tab, allSpans(tab))
		times, e := rounds.Timetable(tab)
		if !slices.Equal(times, want) || (want != nil) != (e == api.OK) || (want == nil) != (e == api.ErrNone) {
			t.Fatal(tab, times, e, want)
		}
		if want != nil {
			right++
		}
	}
	if right < 400 || len(list)-right < 400 {
		t.Error("too few of a kind:", right, len(list))
	}
}

// TestBlames is P5.7, against all timetables of small tables.
func TestBlames(t *testing.T) {
	for _, tab := range smallTables() {
		blame, e := rounds.Blame(tab)
		if firstOf(tab, allSpans(tab)) != nil {
			same(t, fmt.Sprint(tab), blame, 0)
			same(t, fmt.Sprint(tab), e, api.ErrNone)
			continue
		}
		same(t, fmt.Sprint(tab), blame, leastBlame(tab))
		same(t, fmt.Sprint(tab), e, api.OK)
	}
}

// leastBlame returns, of the sets of Spans that no timetable keeps all of, the least of
// those with the fewest.
func leastBlame(t table) int {
	var kept []int
	for _, times := range slicesOf(t.Events, 0, t.Period-1) {
		kept = append(kept, keptBy(t, times))
	}
	slices.Sort(kept)
	kept = slices.Compact(kept)
	for count := 1; ; count++ {
		for set := range allSpans(t) + 1 {
			isPart := func(other int) bool { return set&^other == 0 }
			if bits.OnesCount(uint(set)) == count && !slices.ContainsFunc(kept, isPart) {
				return set
			}
		}
	}
}

// TestLargeTables is P5.6, P5.7 and P5.14 for many events and Spans.
func TestLargeTables(t *testing.T) {
	right, wrong := 0, 0
	for _, tab := range largeTables() {
		times, e := rounds.Timetable(tab)
		blame, f := rounds.Blame(tab)
		if e == api.OK {
			right++
			ok, _ := rounds.Check(tab, times)
			if !ok || f != api.ErrNone || blame != 0 || times[0] != 0 || !isFirstRight(tab, times) {
				t.Fatal(tab, times, ok, f, blame)
			}
			continue
		}
		wrong++
		if e != api.ErrNone || f != api.OK || blame < 0 || blame > allSpans(tab) {
			t.Fatal(tab, e, f, blame)
		}
		if !isLeastBlame(tab, blame) {
			t.Error(tab, blame)
		}
	}
	if right < 20 || wrong < 20 {
		t.Error("too few of a kind:", right, wrong)
	}
}

// isFirstRight reports whether times are right and no right timetable comes before them.
func isFirstRight(t table, times []int) bool {
	if keptBy(t, times) != allSpans(t) {
		return false
	}
	for i, time := range times {
		for less := range time {
			if canKeep(t, allSpans(t), append(slices.Clone(times[:i]), less)) {
				return false
			}
		}
	}
	return true
}

// canKeep reports whether a timetable with these times of the first events keeps all Spans
// of a set.
func canKeep(t table, set int, times []int) bool {
	for i, s := range t.Spans {
		if set>>i&1 == 1 && s.From < len(times) && s.To < len(times) && !keeps(t, s, times) {
			return false
		}
	}
	if len(times) == t.Events {
		return true
	}
	for time := range t.Period {
		if canKeep(t, set, append(slices.Clone(times), time)) {
			return true
		}
	}
	return false
}

// isLeastBlame reports whether no timetable keeps all Spans of a set, but all of every set
// with fewer, and of every lesser one with as many.
func isLeastBlame(t table, blame int) bool {
	if canKeep(t, blame, []int{0}) {
		return false
	}
	count := bits.OnesCount(uint(blame))
	for set := range allSpans(t) + 1 {
		c := bits.OnesCount(uint(set))
		if (c == count-1 || c == count && set < blame) && !canKeep(t, set, []int{0}) {
			return false
		}
	}
	return true
}

// TestBlameAlone is a part of P5.14.
func TestBlameAlone(t *testing.T) {
	for _, tab := range append(smallTables(), largeTables()...) {
		blame, e := rounds.Blame(tab)
		if e != api.OK {
			continue
		}
		if _, e := rounds.Timetable(only(tab, blame)); e != api.ErrNone {
			t.Error(tab, blame, e)
		}
		for i := range tab.Spans {
			if blame>>i&1 == 0 {
				continue
			}
			if _, e := rounds.Timetable(only(tab, blame&^(1<<i))); e != api.OK {
				t.Error(tab, blame, i, e)
			}
		}
		// The Spans of the set, alone, are to blame all together.
		alone, e := rounds.Blame(only(tab, blame))
		same(t, fmt.Sprint(tab), alone, allSpans(only(tab, blame)))
		same(t, fmt.Sprint(tab), e, api.OK)
	}
}

// TestChecks is P5.6 and a part of P5.14: for all timetables of small tables.
func TestChecks(t *testing.T) {
	for _, tab := range smallTables() {
		for i, times := range slicesOf(tab.Events, 0, tab.Period-1) {
			if i%3 != 0 {
				continue
			}
			want := keptBy(tab, times) == allSpans(tab)
			for added := range tab.Period {
				later := slices.Clone(times)
				for event := range later {
					later[event] = (later[event] + added) % tab.Period
				}
				got, e := rounds.Check(tab, later)
				if got != want || e != api.OK {
					t.Fatal(tab, later, got, e)
				}
			}
		}
	}
}

func TestCheckOfNoTimetable(t *testing.T) {
	tab := table{4, 3, []span{{0, 1, 1, 2}}}
	for _, c := range []struct {
		times []int
		want  bool
	}{
		{[]int{0, 1, 0}, true}, {[]int{0, 2, 3}, true}, {[]int{3, 0, 0}, true}, {[]int{3, 1, 0}, true},
		{[]int{0, 0, 0}, false}, {[]int{0, 3, 0}, false}, {[]int{3, 2, 0}, false},
		{nil, false}, {[]int{}, false}, {[]int{0, 1}, false}, {[]int{0, 1, 0, 0}, false}, {[]int{0}, false}, {make([]int, 1<<20), false},
		{[]int{0, 1, 4}, false}, {[]int{0, 1, -1}, false}, {[]int{4, 1, 0}, false}, {[]int{-1, 0, 0}, false}, {[]int{0, 5, 0}, false},
	} {
		got, e := rounds.Check(tab, c.times)
		same(t, fmt.Sprint(len(c.times), c.times[:min(len(c.times), 8)]), got, c.want)
		same(t, "error", e, api.OK)
	}
	for _, time := range extremes {
		for _, times := range [][]int{{0, 1, time}, {time, 1, 0}, {0, time, 0}, {time, time, time}} {
			got, e := rounds.Check(tab, times)
			same(t, fmt.Sprint(times), got, false)
			same(t, fmt.Sprint(times), e, api.OK)
		}
	}
	for _, free := range []table{{Period: 12, Events: 1}, {Period: 1, Events: 6}} {
		ok, _ := rounds.Check(free, make([]int, free.Events))
		same(t, fmt.Sprint(free), ok, true)
		ok, _ = rounds.Check(free, slices.Repeat([]int{free.Period}, free.Events))
		same(t, fmt.Sprint(free), ok, false)
	}
}
