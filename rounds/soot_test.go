package rounds_test

import (
	"fmt"
	"math"
	"slices"
	"testing"

	"lampblack/api"
	"lampblack/rounds"
)

func TestBoundExamples(t *testing.T) {
	for _, c := range []struct {
		l    []int
		want int
	}{
		{[]int{1, 1}, 2},
		{[]int{3, 1}, 6},
		{[]int{1, 3}, 6},
		{[]int{1}, 1},
		{[]int{5}, 5},
		{[]int{5, 5}, 10},
		{[]int{5, 4}, 10},
		{[]int{1, 1, 1, 1}, 4},
		{[]int{5, 5, 5, 5}, 20},
		{[]int{2, 1, 1}, 4},
		{[]int{5, 1, 1, 1}, 10},
	} {
		bound, e := rounds.Bound(c.l)
		same(t, fmt.Sprint(c.l), bound, c.want)
		same(t, fmt.Sprint(c.l), e, api.OK)
		round, e := rounds.Sweep(c.l)
		same(t, fmt.Sprint(c.l), e, api.OK)
		sootOfRound, all := mostSoot(c.l, round)
		same(t, fmt.Sprint(c.l, round), sootOfRound, c.want)
		same(t, fmt.Sprint(c.l, round), all, true)
	}
}

// grow returns the soot before the sweeping of a day.
func grow(l []int, soot [4]int) [4]int {
	for chimney, growth := range l {
		soot[chimney] += growth
	}
	return soot
}

// swept returns what can come of soot in a day, if no soot before the sweeping may be above
// a bound.
func swept(l []int, soot [4]int, bound int) [][4]int {
	before := grow(l, soot)
	if slices.Max(before[:]) > bound {
		return nil
	}
	var list [][4]int
	for chimney := range l {
		next := before
		next[chimney] = 0
		list = append(list, next)
	}
	return list
}

// canHold reports whether a bound holds, by the soot itself: from all that can come of no
// soot, what leads only to soot above the bound is taken away, again and again.
func canHold(l []int, bound int) bool {
	var start [4]int
	found, list := map[[4]int]bool{start: true}, [][4]int{start}
	for i := 0; i < len(list); i++ {
		for _, next := range swept(l, list[i], bound) {
			if !found[next] {
				found[next] = true
				list = append(list, next)
			}
		}
	}
	for {
		left := slices.DeleteFunc(slices.Clone(list), func(soot [4]int) bool {
			return !slices.ContainsFunc(swept(l, soot, bound), func(next [4]int) bool { return found[next] })
		})
		if len(left) == len(list) {
			return found[start]
		}
		for _, soot := range list {
			found[soot] = false
		}
		for _, soot := range left {
			found[soot] = true
		}
		list = left
	}
}

// mostSoot returns the most soot before the sweeping of a day that a round leads to, and
// whether all chimneys are swept in it.
func mostSoot(l, round []int) (int, bool) {
	var soot [4]int
	most := 0
	for range 3 {
		for _, chimney := range round {
			soot = grow(l, soot)
			most = max(most, slices.Max(soot[:]))
			soot[chimney] = 0
		}
	}
	for chimney := range l {
		if !slices.Contains(round, chimney) {
			return math.MaxInt, false
		}
	}
	return most, true
}

// TestBounds is P5.5 and P5.13, for all growths.
func TestBounds(t *testing.T) {
	for _, l := range allGrowths() {
		bound, e := rounds.Bound(l)
		if e != api.OK || bound < sumOf(l) || bound > 2*sumOf(l) {
			t.Fatal(l, bound, e)
		}
		lowest := bound - 1
		if len(l) <= 3 || slices.IsSorted(l) {
			lowest = 0
		}
		for b := lowest; b <= bound+1; b++ {
			if canHold(l, b) != (b >= bound) {
				t.Error(l, bound, b)
			}
		}
	}
}

// TestSweeps is P5.5 and P5.13, for all growths.
func TestSweeps(t *testing.T) {
	for _, l := range allGrowths() {
		bound, _ := rounds.Bound(l)
		round, e := rounds.Sweep(l)
		if e != api.OK || len(round) < 1 || len(round) > 20000 {
			t.Fatal(l, len(round), e)
		}
		if most, all := mostSoot(l, round); !all || most != bound {
			t.Error(l, round, bound, most, all)
		}
		for _, b := range []int{bound, bound + 1, 2 * bound, math.MaxInt, bound - 1, bound / 2, 1, 0, -1, math.MinInt} {
			ok, e := rounds.CheckSweep(l, round, b)
			same(t, fmt.Sprint(l, round, b), ok, b >= bound)
			same(t, fmt.Sprint(l, round, b), e, api.OK)
		}
	}
}

// TestNoLess is a part of P5.13: no round is accepted with less than the Bound.
func TestNoLess(t *testing.T) {
	for _, l := range slices.Concat(growthsOf(1), growthsOf(2), growthsOf(3), [][]int{{1, 1, 1, 1}, {1, 2, 1, 3}, {5, 1, 1, 1}}) {
		bound, _ := rounds.Bound(l)
		for days := 1; days <= 6; days++ {
			for _, round := range slicesOf(days, 0, len(l)-1) {
				if ok, e := rounds.CheckSweep(l, round, bound-1); ok || e != api.OK {
					t.Fatal(l, round, bound, e)
				}
			}
		}
	}
}

func TestCheckSweepExamples(t *testing.T) {
	for _, c := range []struct {
		l, round []int
		b        int
		want     bool
	}{
		{[]int{1, 1}, []int{0, 1}, 2, true},
		{[]int{1, 1}, []int{0, 1}, 1, false},
		{[]int{3, 1}, []int{0, 1}, 6, true},
		{[]int{3, 1}, []int{0, 1}, 5, false},
		{[]int{3, 1}, []int{1, 0}, 6, true},
		{[]int{3, 1}, []int{0, 0, 1}, 6, true},
		{[]int{3, 1}, []int{0, 1, 1}, 6, false},
		{[]int{3, 1}, []int{0, 1, 1}, 9, true},
		{[]int{1}, []int{0}, 1, true},
		{[]int{5}, []int{0, 0}, 5, true},
		{[]int{5}, []int{0, 0}, 4, false},
		// What grows from the end of a round to its next beginning counts too.
		{[]int{1, 1}, []int{0, 0, 1, 0, 0}, 4, false},
		{[]int{1, 1}, []int{0, 0, 1, 0, 0}, 5, true},
		// A chimney that is never swept is above every bound some day.
		{[]int{1, 1}, []int{0}, math.MaxInt, false},
		{[]int{1, 1}, []int{1, 1, 1}, math.MaxInt, false},
		{[]int{1, 1}, nil, 100, false},
		{[]int{1, 1}, []int{}, math.MaxInt, false},
		{[]int{1, 1}, []int{0, 1, 2}, 100, false},
		{[]int{1, 1}, []int{0, 1, -1}, 100, false},
	} {
		got, e := rounds.CheckSweep(c.l, c.round, c.b)
		same(t, fmt.Sprint(c.l, c.round, c.b), got, c.want)
		same(t, fmt.Sprint(c.l, c.round, c.b), e, api.OK)
	}
}

// TestCheckSweepOfAll compares with the soot of the round played out, for all short rounds.
func TestCheckSweepOfAll(t *testing.T) {
	longest := []int{5, 8, 6, 5}
	for _, l := range slices.Concat(growthsOf(1), growthsOf(2), slicesOf(3, 1, 3), [][]int{{5, 4, 3}, {1, 1, 1, 1}, {5, 3, 1, 2}, {1, 5, 2, 4}}) {
		for days := 1; days <= longest[len(l)-1]; days++ {
			for _, round := range slicesOf(days, 0, len(l)-1) {
				most, all := mostSoot(l, round)
				for _, b := range []int{most, most - 1, most - slices.Min(l), math.MaxInt, sumOf(l), 0, -5} {
					got, e := rounds.CheckSweep(l, round, b)
					if got != (all && most <= b) || e != api.OK {
						t.Fatal(l, round, b, got, e)
					}
				}
			}
		}
	}
}

func TestCheckSweepLimits(t *testing.T) {
	l := []int{3, 1}
	for _, c := range []struct {
		round []int
		want  bool
	}{
		{slices.Repeat([]int{0, 1}, 2000), true},
		{append(slices.Repeat([]int{0, 1}, 2000), 0), true},
		{slices.Repeat([]int{0, 1}, 10000), true},
		{append(slices.Repeat([]int{0, 1}, 10000), 0), false},
		{append(slices.Repeat([]int{0, 1}, 9999), 0), true},
		{append(slices.Repeat([]int{0, 1}, 9999), 1), false},
		{slices.Repeat([]int{0, 1}, 1<<20), false},
	} {
		got, e := rounds.CheckSweep(l, c.round, 6)
		same(t, fmt.Sprint(len(c.round)), got, c.want)
		same(t, fmt.Sprint(len(c.round)), e, api.OK)
	}
	// The longest wait that there can be.
	once := append(make([]int, 19999), 1)
	for _, b := range []int{20000 * 5, 20000*5 - 1, math.MaxInt, math.MinInt, 0} {
		got, e := rounds.CheckSweep([]int{5, 5}, once, b)
		same(t, fmt.Sprint(b), got, b >= 20000*5)
		same(t, fmt.Sprint(b), e, api.OK)
	}
	for _, chimney := range append([]int{2, 3, 4}, extremes...) {
		for _, round := range [][]int{{chimney}, {0, 1, chimney}, {chimney, 0, 1}} {
			got, e := rounds.CheckSweep(l, round, 1000)
			same(t, fmt.Sprint(round), got, false)
			same(t, fmt.Sprint(round), e, api.OK)
		}
	}
}
