package rounds

import (
	"slices"

	"lampblack/api"
)

const (
	mostDays     = 12   // within which a task may have to be done
	longestRound = 4000 // days
)

// tasks tell for each task within how many days in a row it has to be done.
type tasks struct{ within []int }

// state tells for each task in how many days from today on, today being 1, it has to be
// done at the latest. Elements without a task are 0.
type state [api.MaxTasks]int

// newTasks returns the tasks of a slice, or false if they are not valid.
func newTasks(l []int) (tasks, bool) {
	if len(l) < 1 || len(l) > api.MaxTasks {
		return tasks{}, false
	}
	for _, days := range l {
		if days < 1 || days > mostDays {
			return tasks{}, false
		}
	}
	k := tasks{within: l}
	return k, k.product() <= api.MaxStates
}

// product returns the number of states.
func (k tasks) product() int {
	product := 1
	for _, days := range k.within {
		product *= days
	}
	return product
}

// density returns the sum of what each task takes of a day.
func (k tasks) density() api.Frac {
	num, den := 0, 1
	for _, days := range k.within {
		num, den = num*days+den, den*days
	}
	common := divisor(num, den)
	return api.Frac{Num: num / common, Den: den / common}
}

// divisor returns the greatest common divisor of two positive numbers.
func divisor(a, b int) int {
	for b > 0 {
		a, b = b, a%b
	}
	return a
}

// isTask reports whether a number is the index of a task.
func (k tasks) isTask(task int) bool { return task >= 0 && task < len(k.within) }

// fresh returns the state in which every task has just been done. No other state lives
// longer.
func (k tasks) fresh() state {
	var s state
	copy(s[:], k.within)
	return s
}

// stateOf returns the state of a slice, or false if it is none.
func (k tasks) stateOf(l []int) (state, bool) {
	if len(l) != len(k.within) {
		return state{}, false
	}
	for task, days := range l {
		if days < 1 || days > k.within[task] {
			return state{}, false
		}
	}
	var s state
	copy(s[:], l)
	return s, true
}

// number returns the number of a state. The states are numbered from 0 on without a gap.
func (k tasks) number(s state) int {
	number := 0
	for task, days := range k.within {
		number = number*days + s[task] - 1
	}
	return number
}

// next returns the state that comes when a task is done, or false if the state fails.
func (k tasks) next(s state, task int) (state, bool) {
	for i, days := range k.within {
		s[i]--
		if i == task {
			s[i] = days
		}
		if s[i] == 0 {
			return state{}, false
		}
	}
	return s, true
}

// areKept reports whether l, which may be any slice, is a round that keeps the tasks.
func (k tasks) areKept(l []int) bool {
	if !isRound(l, len(k.within), longestRound) {
		return false
	}
	for task, days := range k.within {
		if wait, ok := longestWait(l, task); !ok || wait > days {
			return false
		}
	}
	return true
}

// isRound reports whether a slice has at least one day, at most the given number of them,
// and on each day one of so many tasks.
func isRound(l []int, count, longest int) bool {
	if len(l) < 1 || len(l) > longest {
		return false
	}
	return !slices.ContainsFunc(l, func(task int) bool { return task < 0 || task >= count })
}

// longestWait returns the greatest number of days from a day with a task to the next one,
// or false if a round does not contain the task.
func longestWait(round []int, task int) (int, bool) {
	last := slices.Index(round, task)
	if last < 0 {
		return 0, false
	}
	longest := 0
	// The round is gone through twice, since a wait may go on from its end to its beginning.
	for day := range 2 * len(round) {
		if round[day%len(round)] == task {
			longest = max(longest, day-last)
			last = day
		}
	}
	return longest, true
}
