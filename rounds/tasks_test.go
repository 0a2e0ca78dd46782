package rounds_test

import (
	"fmt"
	"slices"
	"testing"

	"lampblack/api"
	"lampblack/rounds"
)

func TestDensityExamples(t *testing.T) {
	for _, c := range []struct {
		l    []int
		want api.Frac
	}{
		{[]int{2, 3}, api.Frac{Num: 5, Den: 6}},
		{[]int{2, 3, 12}, api.Frac{Num: 11, Den: 12}},
		{[]int{1}, api.Frac{Num: 1, Den: 1}},
		{[]int{12}, api.Frac{Num: 1, Den: 12}},
		{[]int{2, 2}, api.Frac{Num: 1, Den: 1}},
		{[]int{3, 6}, api.Frac{Num: 1, Den: 2}},
		{[]int{4, 4, 6, 12, 1}, api.Frac{Num: 7, Den: 4}},
		{[]int{1, 1, 1, 1, 1}, api.Frac{Num: 5, Den: 1}},
		{[]int{10, 10, 10, 4}, api.Frac{Num: 11, Den: 20}},
	} {
		got, e := rounds.Density(c.l)
		same(t, fmt.Sprint(c.l), got, c.want)
		same(t, fmt.Sprint(c.l), e, api.OK)
	}
}

// TestDensityOfAll is P5.1, and tells which slices are tasks: for all slices of 1 to 5
// numbers from 1 to 12.
func TestDensityOfAll(t *testing.T) {
	for n := 1; n <= 5; n++ {
		for _, l := range slicesOf(n, 1, 12) {
			got, e := rounds.Density(l)
			if productOf(l) > api.MaxStates {
				if e != api.ErrArg || got != (api.Frac{}) {
					t.Fatal(l, got, e)
				}
				continue
			}
			sum := 0
			for _, number := range l {
				sum += productOf(l) / number
			}
			if e != api.OK || got.Den < 1 || got.Num*productOf(l) != sum*got.Den || !areLowest(got) {
				t.Fatal(l, got, e)
			}
		}
	}
}

func areLowest(f api.Frac) bool {
	for common := 2; common <= f.Den; common++ {
		if f.Num%common == 0 && f.Den%common == 0 {
			return false
		}
	}
	return true
}

func TestCheckRoundExamples(t *testing.T) {
	for _, c := range []struct {
		l, round []int
		want     bool
	}{
		{[]int{2, 3}, []int{0, 1}, true},
		{[]int{2, 3}, []int{1, 0}, true},
		{[]int{2, 3}, []int{0, 0, 1}, true},
		{[]int{2, 3}, []int{0, 1, 1}, false},
		{[]int{2, 3}, []int{0, 0, 0, 1}, false},
		{[]int{2, 3}, []int{0, 1, 0, 0, 1}, true},
		// The days from the end of a round to its next beginning count too.
		{[]int{2, 3}, []int{0, 0, 1, 0, 0}, false},
		{[]int{3, 3}, []int{0, 0, 0, 1, 1}, false},
		{[]int{4, 4}, []int{0, 0, 0, 1, 1}, true},
		{[]int{2, 3}, []int{0}, false},
		{[]int{1}, []int{0}, true},
		{[]int{12}, []int{0, 0, 0}, true},
		{[]int{1, 1}, []int{0, 1}, false},
		{[]int{2, 2, 2}, []int{0, 1}, false},
		{[]int{2, 3}, nil, false},
		{[]int{2, 3}, []int{}, false},
		{[]int{2, 3}, []int{0, 1, 2}, false},
		{[]int{2, 3}, []int{0, 1, -1}, false},
		{[]int{12, 12, 12}, []int{0, 1, 2}, true},
		{[]int{12, 12}, []int{0, 0, 0, 0, 0, 0, 0, 0, 0, 0, 0, 1}, true},
		{[]int{12, 12}, []int{0, 0, 0, 0, 0, 0, 0, 0, 0, 0, 0, 0, 1}, false},
	} {
		got, e := rounds.CheckRound(c.l, c.round)
		same(t, fmt.Sprint(c.l, c.round), got, c.want)
		same(t, fmt.Sprint(c.l, c.round), e, api.OK)
	}
}

// TestCheckRoundOfAll is P5.2: it compares with the days of the round played out, for all
// short rounds.
func TestCheckRoundOfAll(t *testing.T) {
	longest := []int{6, 9, 7, 5, 5}
	for _, l := range slices.Concat(slicesOf(1, 1, 6), slicesOf(2, 1, 6), slicesOf(3, 2, 5), [][]int{{4, 2, 5, 12}, {3, 4, 4, 5}, {5, 5, 5, 5, 5}, {4, 5, 5, 5, 6}}) {
		for days := 1; days <= longest[len(l)-1]; days++ {
			for _, round := range slicesOf(days, 0, len(l)-1) {
				got, e := rounds.CheckRound(l, round)
				if got != holds(l, again(round)) || e != api.OK {
					t.Fatal(l, round, got, e)
				}
			}
		}
	}
}

func TestCheckRoundLimits(t *testing.T) {
	for _, c := range []struct {
		round []int
		want  bool
	}{
		{slices.Repeat([]int{0, 1}, 2000), true},
		{append(slices.Repeat([]int{0, 1}, 2000), 0), false},
		{slices.Repeat([]int{0, 1}, 1999), true},
		{append(slices.Repeat([]int{0, 1}, 1999), 0), true},
		{slices.Repeat([]int{0, 1}, 1<<20), false},
		{append(slices.Repeat([]int{0, 1}, 1997), 0, 0, 1, 0, 0, 1), true},
		{append(slices.Repeat([]int{0, 1}, 1999), 1, 1), false},
		{append(slices.Repeat([]int{0, 1}, 1999), 0, 0), false},
	} {
		got, e := rounds.CheckRound([]int{2, 3}, c.round)
		same(t, fmt.Sprint(len(c.round)), got, c.want)
		same(t, fmt.Sprint(len(c.round)), e, api.OK)
	}
	for _, task := range append([]int{2, 3, 5}, extremes...) {
		for _, round := range [][]int{{task}, {0, 1, task}, {task, 0, 1}, {0, task, 1, 0}} {
			got, e := rounds.CheckRound([]int{2, 3}, round)
			same(t, fmt.Sprint(round), got, false)
			same(t, fmt.Sprint(round), e, api.OK)
		}
	}
}

func TestNextExamples(t *testing.T) {
	for _, c := range []struct {
		l, state []int
		task     int
		want     string
		e        api.Errno
	}{
		{[]int{2, 3}, []int{2, 3}, 0, "[2 2]", api.OK},
		{[]int{2, 3}, []int{2, 3}, 1, "[1 3]", api.OK},
		{[]int{2, 3}, []int{1, 1}, 0, "[]", api.ErrNone},
		{[]int{2, 3}, []int{1, 1}, 1, "[]", api.ErrNone},
		{[]int{2, 3}, []int{1, 2}, 0, "[2 1]", api.OK},
		{[]int{2, 3}, []int{1, 2}, 1, "[]", api.ErrNone},
		{[]int{1}, []int{1}, 0, "[1]", api.OK},
		{[]int{12}, []int{1}, 0, "[12]", api.OK},
		{[]int{2, 4, 8, 12, 5}, []int{2, 3, 2, 10, 5}, 3, "[1 2 1 12 4]", api.OK},
		{[]int{2, 4, 8, 12, 5}, []int{2, 3, 2, 10, 1}, 3, "[]", api.ErrNone},
		// What is not valid.
		{[]int{2, 3}, []int{2, 3}, 2, "[]", api.ErrArg},
		{[]int{2, 3}, []int{2, 3}, -1, "[]", api.ErrArg},
		{[]int{2, 3}, []int{2, 4}, 0, "[]", api.ErrArg},
		{[]int{2, 3}, []int{3, 3}, 0, "[]", api.ErrArg},
		{[]int{2, 3}, []int{0, 3}, 0, "[]", api.ErrArg},
		{[]int{2, 3}, []int{2}, 0, "[]", api.ErrArg},
		{[]int{2, 3}, []int{2, 3, 1}, 0, "[]", api.ErrArg},
		{[]int{2, 3}, []int{2, 3, 0}, 0, "[]", api.ErrArg},
		{[]int{2, 3}, nil, 0, "[]", api.ErrArg},
		// ErrArg comes before ErrNone.
		{[]int{2, 3}, []int{1, 1}, 2, "[]", api.ErrArg},
		{[]int{2, 3}, []int{0, 1}, 1, "[]", api.ErrArg},
	} {
		got, e := rounds.Next(c.l, c.state, c.task)
		sameText(t, fmt.Sprint(c.l, c.state, c.task), got, c.want)
		same(t, fmt.Sprint(c.l, c.state, c.task), e, c.e)
	}
}

// statesOf returns all states of tasks.
func statesOf(l []int) [][]int {
	list := [][]int{{}}
	for _, number := range l {
		var longer [][]int
		for _, state := range list {
			for days := 1; days <= number; days++ {
				longer = append(longer, append(slices.Clone(state), days))
			}
		}
		list = longer
	}
	return list
}

// after returns the state that comes when a task is done, or nil if the state fails.
func after(l, state []int, task int) []int {
	next := slices.Clone(state)
	for i := range next {
		next[i]--
	}
	next[task] = l[task]
	if slices.Contains(next, 0) {
		return nil
	}
	return next
}

// TestNextOfAll is a part of P5.3.
func TestNextOfAll(t *testing.T) {
	for _, l := range slices.Concat(slicesOf(1, 1, 12), slicesOf(2, 1, 5), slicesOf(3, 1, 4), edgeTasks()) {
		for _, state := range statesOf(l) {
			for task := range l {
				got, e := rounds.Next(l, state, task)
				want := after(l, state, task)
				if !slices.Equal(got, want) || (e == api.ErrNone) != (want == nil) || (e == api.OK) != (want != nil) {
					t.Fatal(l, state, task, got, e)
				}
			}
		}
	}
}

func TestStatesNotValid(t *testing.T) {
	refused := func(l, state []int) {
		t.Helper()
		name := fmt.Sprint(l, len(state), state[:min(len(state), 8)])
		life, e := rounds.Life(l, state)
		same(t, name, life, 0)
		same(t, name, e, api.ErrArg)
		next, e := rounds.Next(l, state, 0)
		same(t, name, len(next), 0)
		same(t, name, e, api.ErrArg)
	}
	for _, l := range [][]int{{3}, {2, 3}, {12, 3}, {10, 10, 10, 4}, {5, 5, 5, 4, 8}} {
		refused(l, nil)
		refused(l, make([]int, len(l)))
		refused(l, l[1:])
		refused(l, append(slices.Clone(l), 1))
		refused(l, append(slices.Clone(l), 0))
		refused(l, slices.Repeat([]int{1}, 1<<20))
		for task := range l {
			for _, days := range append([]int{0, l[task] + 1, 13}, extremes...) {
				state := slices.Clone(l)
				state[task] = days
				refused(l, state)
			}
		}
		for _, task := range append([]int{len(l), 5, 6}, extremes...) {
			next, e := rounds.Next(l, l, task)
			same(t, fmt.Sprint(l, task), len(next), 0)
			same(t, fmt.Sprint(l, task), e, api.ErrArg)
		}
	}
}
