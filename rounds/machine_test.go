package rounds_test

import (
	"fmt"
	"math"
	"slices"
	"testing"

	"lampblack/api"
	"lampblack/rounds"
)

func TestRoundExamples(t *testing.T) {
	for _, c := range []struct {
		l    []int
		e    api.Errno
		last []int
	}{
		{[]int{2, 3}, api.OK, nil},
		{[]int{2, 3, 12}, api.ErrNone, []int{2, 0, 1, 0, 0, 1, 0, 0, 1, 0, 1, 0, 2}},
		{[]int{1}, api.OK, nil},
		{[]int{12}, api.OK, nil},
		{[]int{1, 12}, api.ErrNone, []int{0, 0, 0, 0, 0, 0, 0, 0, 0, 0, 0}},
		{[]int{1, 1}, api.ErrNone, nil},
		{[]int{1, 1, 1, 1, 1}, api.ErrNone, nil},
		{[]int{1, 2}, api.ErrNone, []int{0}},
		{[]int{2, 1}, api.ErrNone, []int{1}},
		{[]int{2, 2}, api.OK, nil},
		{[]int{2, 2, 2}, api.ErrNone, []int{0}},
		{[]int{2, 4, 8, 8}, api.OK, nil},
		{[]int{5, 5, 5, 5, 5}, api.OK, nil},
		{[]int{5, 5, 5, 5, 4}, api.ErrNone, []int{0, 1, 2, 4, 3, 0, 1}},
	} {
		name := fmt.Sprint(c.l)
		round, e := rounds.Round(c.l)
		same(t, name, e, c.e)
		if e == api.OK {
			same(t, name, holds(c.l, again(round)), true)
		}
		last, e := rounds.Last(c.l)
		if c.e == api.OK {
			same(t, name, e, api.ErrNone)
			same(t, name, len(last), 0)
		} else {
			same(t, name, e, api.OK)
			sameText(t, name, last, c.last)
		}
	}
}

// longestFrom returns the first of the longest slices that begin with some days and can be
// done, by trying all of them.
func longestFrom(l, days []int) []int {
	best := days
	for task := range l {
		longer := append(slices.Clone(days), task)
		if !holds(l, longer) {
			continue
		}
		if found := longestFrom(l, longer); len(found) > len(best) {
			best = found
		}
	}
	return best
}

// TestLastOfFew is P5.4: for all tasks with few numbers that no round keeps, all slices
// are tried.
func TestLastOfFew(t *testing.T) {
	for _, l := range slices.Concat(fewTasks(), [][]int{{3, 4, 5, 6}, {6, 3, 5, 4}, {4, 4, 4, 5, 5}, {5, 4, 5, 5, 4}, {2, 4, 7, 12}, {3, 3, 4, 12}}) {
		last, e := rounds.Last(l)
		if e == api.OK && !slices.Equal(last, longestFrom(l, nil)) {
			t.Error(l, last, longestFrom(l, nil))
		}
	}
}

// livesOf returns the lives of all states, by going back from what fails: the states from
// which a day can be done, then those from which two can be done, and so on, until no state
// is lost any more.
func livesOf(l []int) map[[5]int]int {
	states := statesOf(l)
	lives := map[[5]int]int{}
	alive := map[[5]int]bool{}
	for _, state := range states {
		alive[keyOf(state)] = true
	}
	for days := 0; ; days++ {
		still := map[[5]int]bool{}
		for _, state := range states {
			for task := range l {
				if next := after(l, state, task); next != nil && alive[keyOf(state)] && alive[keyOf(next)] {
					still[keyOf(state)] = true
				}
			}
		}
		for key := range alive {
			lives[key] = -1
			if !still[key] {
				lives[key] = days
			}
		}
		if len(still) == len(alive) {
			return lives
		}
		alive = still
	}
}

func keyOf(state []int) [5]int {
	var key [5]int
	copy(key[:], state)
	return key
}

// someStates returns at most count states of tasks, spread over all of them.
func someStates(l []int, count int) [][]int {
	all := statesOf(l)
	step := max(1, len(all)/count)
	var list [][]int
	for i := 0; i < len(all); i += step {
		list = append(list, all[i])
	}
	return append(list, slices.Clone(l))
}

// lifeTasks returns tasks of all kinds, few enough to look at many of their states.
func lifeTasks() [][]int {
	return slices.Concat(slicesOf(1, 1, 12), slicesOf(2, 1, 5), slicesOf(3, 1, 4), edgeTasks(), someTasks(3, 30), someTasks(4, 20), someTasks(5, 20))
}

// TestLives is P5.3.
func TestLives(t *testing.T) {
	for _, l := range lifeTasks() {
		want := livesOf(l)
		for _, state := range someStates(l, 60) {
			life, e := rounds.Life(l, state)
			if life != want[keyOf(state)] || e != api.OK {
				t.Fatal(l, state, life, e, want[keyOf(state)])
			}
		}
	}
}

func TestLifeExamples(t *testing.T) {
	for _, c := range []struct {
		l, state []int
		want     int
	}{
		{[]int{2, 3}, []int{2, 3}, -1},
		{[]int{2, 3}, []int{1, 1}, 0},
		{[]int{2, 3}, []int{2, 1}, -1},
		{[]int{2, 3, 12}, []int{2, 3, 12}, 13},
		{[]int{2, 3, 12}, []int{2, 3, 1}, 13},
		{[]int{2, 3, 12}, []int{1, 1, 1}, 0},
		{[]int{2, 3, 12}, []int{2, 2, 1}, 1},
		{[]int{1}, []int{1}, -1},
		{[]int{12}, []int{1}, -1},
		{[]int{1, 1}, []int{1, 1}, 0},
		{[]int{3, 3, 3}, []int{1, 2, 3}, -1},
		{[]int{3, 3, 3}, []int{2, 2, 2}, 1},
		{[]int{3, 3, 3}, []int{2, 2, 3}, -1},
	} {
		life, e := rounds.Life(c.l, c.state)
		same(t, fmt.Sprint(c.l, c.state), life, c.want)
		same(t, fmt.Sprint(c.l, c.state), e, api.OK)
	}
}

// longer returns a life as a number that is the greater the longer it is.
func longer(life int) int {
	if life == -1 {
		return math.MaxInt
	}
	return life
}

// TestLivesOfNext is P5.12.
func TestLivesOfNext(t *testing.T) {
	d := dice(3)
	for _, l := range lifeTasks() {
		for _, state := range someStates(l, 40) {
			life, _ := rounds.Life(l, state)
			want := 0
			for task := range l {
				next, e := rounds.Next(l, state, task)
				if e != api.OK {
					continue
				}
				if after, _ := rounds.Life(l, next); after == -1 || want == -1 {
					want = -1
				} else {
					want = max(want, after+1)
				}
			}
			if life != want {
				t.Fatal(l, state, life, want)
			}
			less := slices.Clone(state)
			for task := range less {
				less[task] = d.between(1, state[task])
			}
			if lesser, e := rounds.Life(l, less); e != api.OK || longer(lesser) > longer(life) {
				t.Fatal(l, less, state, lesser, life, e)
			}
		}
	}
}

// TestOneOrTheOther is P5.2, P5.4 and P5.10.
func TestOneOrTheOther(t *testing.T) {
	kept, failed := 0, 0
	for _, l := range manyTasks() {
		round, e := rounds.Round(l)
		last, f := rounds.Last(l)
		life, _ := rounds.Life(l, l)
		if e == api.OK {
			kept++
			ok, _ := rounds.CheckRound(l, round)
			if !ok || !holds(l, again(round)) || f != api.ErrNone || len(last) != 0 || life != -1 {
				t.Fatal(l, round, f, last, life)
			}
			continue
		}
		failed++
		if e != api.ErrNone || len(round) != 0 || f != api.OK || len(last) != life || !holds(l, last) || !isFirst(l, last) {
			t.Fatal(l, e, round, f, last, life)
		}
	}
	if kept < 1000 || failed < 1000 {
		t.Error("too few of a kind:", kept, failed)
	}
}

// isFirst reports whether no slice as long as this one comes before it and can be done,
// and none that is longer.
func isFirst(l, last []int) bool {
	state := slices.Clone(l)
	for day, done := range last {
		for task := range done {
			if next := after(l, state, task); next != nil && lives(l, next, len(last)-day-1) {
				return false
			}
		}
		state = after(l, state, done)
		if state == nil {
			return false
		}
	}
	return !lives(l, l, len(last)+1)
}

// lives reports whether so many days can be done from a state, by trying.
func lives(l, state []int, days int) bool {
	if days == 0 {
		return true
	}
	// More numbers that are at most so many days than there are days before leave one undone.
	for limit := 1; limit <= days; limit++ {
		urgent := 0
		for _, number := range state {
			if number <= limit {
				urgent++
			}
		}
		if urgent > limit {
			return false
		}
	}
	for task := range l {
		if next := after(l, state, task); next != nil && lives(l, next, days-1) {
			return true
		}
	}
	return false
}

// TestDensityBounds is P5.9.
func TestDensityBounds(t *testing.T) {
	for _, l := range slices.Concat(manyTasks(), someDense()) {
		density, _ := rounds.Density(l)
		_, e := rounds.Round(l)
		num, den := density.Num, density.Den
		must := 2*num <= den || len(l) <= 3 && 6*num <= 5*den || len(l) == 2 && num <= den
		if must && e != api.OK || num > den && e != api.ErrNone {
			t.Error(l, density, e)
		}
	}
}

// someDense returns tasks whose density is about 1/2, 5/6 or 1.
func someDense() [][]int {
	return [][]int{
		{8, 8, 8, 7}, {10, 10, 10, 4}, {6, 6, 6, 12}, {12, 12, 3}, {8, 8, 4, 12}, {4, 4}, {3, 6}, {2, 6, 6}, {2, 3}, {3, 4, 4}, {3, 3, 6},
		{3, 3}, {2, 2}, {1}, {3, 3, 3}, {2, 4, 4}, {2, 4, 8, 8}, {4, 4, 4, 4}, {5, 5, 5, 5, 5}, {2, 3, 6}, {2, 4, 8, 9, 6},
	}
}

// TestLess is P5.11.
func TestLess(t *testing.T) {
	for _, l := range manyTasks() {
		if _, e := rounds.Round(l); e != api.OK {
			continue
		}
		for task := range l {
			raised := slices.Clone(l)
			raised[task]++
			if raised[task] <= 12 && productOf(raised) <= api.MaxStates {
				_, e := rounds.Round(raised)
				same(t, fmt.Sprint(l, raised), e, api.OK)
			}
			if left := slices.Delete(slices.Clone(l), task, task+1); len(left) > 0 {
				_, e := rounds.Round(left)
				same(t, fmt.Sprint(l, left), e, api.OK)
			}
		}
	}
}

// TestLongerFails is a part of P5.10: what is longer than Last fails, step by step.
func TestLongerFails(t *testing.T) {
	for _, l := range slices.Concat(fewTasks(), edgeTasks(), someTasks(4, 40), someTasks(5, 40)) {
		last, e := rounds.Last(l)
		if e != api.OK {
			continue
		}
		state := slices.Clone(l)
		for _, task := range last {
			next, e := rounds.Next(l, state, task)
			if e != api.OK {
				t.Fatal(l, last, state, e)
			}
			state = next
		}
		if life, _ := rounds.Life(l, state); life != 0 {
			t.Error(l, last, state, life)
		}
		for task := range l {
			if _, e := rounds.Next(l, state, task); e != api.ErrNone {
				t.Error(l, last, state, e)
			}
		}
	}
}
