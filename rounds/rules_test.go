package rounds_test

import (
	"fmt"
	"slices"
	"strings"
	"testing"

	"lampblack/api"
	"lampblack/rounds"
)

// question has an argument for each function.
type question struct {
	tasks, state []int
	task         int
	round        []int // of CheckRound
	growths      []int
	sweep        []int // with bound, of CheckSweep
	bound        int
	table        table
	times, cycle []int
}

func (q question) clone() question {
	c := q
	c.tasks, c.state, c.round = slices.Clone(q.tasks), slices.Clone(q.state), slices.Clone(q.round)
	c.growths, c.sweep = slices.Clone(q.growths), slices.Clone(q.sweep)
	c.table.Spans = slices.Clone(q.table.Spans)
	c.times, c.cycle = slices.Clone(q.times), slices.Clone(q.cycle)
	return c
}

func text(values ...any) string { return fmt.Sprint(values...) }

// ofTasks returns the results of the functions of tasks as texts.
func ofTasks(q question) []string {
	density, e1 := rounds.Density(q.tasks)
	round, e2 := rounds.Round(q.tasks)
	kept, e3 := rounds.CheckRound(q.tasks, q.round)
	life, e4 := rounds.Life(q.tasks, q.state)
	next, e5 := rounds.Next(q.tasks, q.state, q.task)
	last, e6 := rounds.Last(q.tasks)
	return []string{
		text(density, " ", e1), text(round, " ", e2), text(kept, " ", e3), text(life, " ", e4), text(next, " ", e5), text(last, " ", e6),
	}
}

// ofGrowths returns the results of the functions of growths as texts.
func ofGrowths(q question) []string {
	bound, e1 := rounds.Bound(q.growths)
	round, e2 := rounds.Sweep(q.growths)
	bounded, e3 := rounds.CheckSweep(q.growths, q.sweep, q.bound)
	return []string{text(bound, " ", e1), text(round, " ", e2), text(bounded, " ", e3)}
}

// ofTable returns the results of the functions of a Table as texts.
func ofTable(q question) []string {
	times, e1 := rounds.Timetable(q.table)
	right, e2 := rounds.Check(q.table, q.times)
	blame, e3 := rounds.Blame(q.table)
	least, greatest, e4 := rounds.Turns(q.table, q.cycle)
	return []string{text(times, " ", e1), text(right, " ", e2), text(blame, " ", e3), text(least, " ", greatest, " ", e4)}
}

func answers(q question) []string { return slices.Concat(ofTasks(q), ofGrowths(q), ofTable(q)) }

// good is a question of which every argument is valid.
func good() question {
	return question{
		tasks: []int{2, 3}, state: []int{2, 1}, task: 1, round: []int{0, 1},
		growths: []int{3, 1}, sweep: []int{0, 1}, bound: 6,
		table: table{4, 3, []span{{0, 1, 1, 2}, {1, 2, 1, 1}, {2, 0, 1, 2}}}, times: []int{0, 1, 2}, cycle: []int{1, 2, 3},
	}
}

// hopeless is a question of which no argument is valid, but for those in the place of which
// another one is put.
func hopeless() question {
	return question{state: []int{0}, task: -1, round: []int{-1}, sweep: []int{-1}, bound: -1, times: []int{-1}, cycle: []int{0}}
}

func TestGood(t *testing.T) {
	for _, line := range answers(good()) {
		if !strings.HasSuffix(line, " 0") && line != "[] 4" && line != "0 4" {
			t.Error(line)
		}
	}
}

// TestNotValid: ErrArg comes first, whatever else is wrong, and every other result is zero.
func TestNotValid(t *testing.T) {
	for name, l := range badTasks() {
		for _, q := range []question{good(), hopeless(), {}} {
			q.tasks = l
			sameText(t, name, ofTasks(q), []string{"{0 0} 2", "[] 2", "false 2", "0 2", "[] 2", "[] 2"})
		}
		// The slice itself as a state, and as a round.
		q := question{tasks: l, state: l, round: l}
		sameText(t, name, ofTasks(q), []string{"{0 0} 2", "[] 2", "false 2", "0 2", "[] 2", "[] 2"})
	}
	for name, l := range badGrowths() {
		for _, q := range []question{good(), hopeless(), {}} {
			q.growths = l
			sameText(t, name, ofGrowths(q), []string{"0 2", "[] 2", "false 2"})
		}
	}
	for name, tab := range badTables() {
		for _, q := range []question{good(), hopeless(), {}} {
			q.table = tab
			sameText(t, name, ofTable(q), []string{"[] 2", "false 2", "0 2", "0 0 2"})
		}
	}
}

// TestValid: what is at the edge of what is valid is taken.
func TestValid(t *testing.T) {
	for _, l := range edgeTasks() {
		_, e := rounds.Density(l)
		same(t, text(l), e, api.OK)
		_, e = rounds.Life(l, l)
		same(t, text(l), e, api.OK)
	}
	for _, l := range [][]int{{1}, {5}, {1, 1, 1, 1}, {5, 5, 5, 5}, {5, 1, 1, 1}} {
		_, e := rounds.Bound(l)
		same(t, text(l), e, api.OK)
	}
	for _, s := range []span{{0, 1, 0, 0}, {0, 1, 0, 11}, {1, 0, 11, 11}, {1, 0, 11, 22}, {0, 1, 5, 16}} {
		for period := 1; period <= 12; period++ {
			for events := 2; events <= api.MaxEvents; events++ {
				tab := table{period, events, slices.Repeat([]span{s}, 12)}
				times, e := rounds.Timetable(tab)
				same(t, text(tab), e, api.OK)
				ok, e := rounds.Check(tab, times)
				same(t, text(tab), ok, true)
				same(t, text(tab), e, api.OK)
			}
		}
	}
}

// manyQuestions returns questions of which the most arguments are valid.
func manyQuestions() []question {
	d := dice(31)
	var list []question
	for _, l := range slices.Concat(edgeTasks(), someTasks(3, 20), someTasks(4, 20), someTasks(5, 20)) {
		q := question{tasks: l, task: d.below(len(l) + 1), table: someTable(&d, 12, 5, 8)}
		for _, number := range l {
			q.state = append(q.state, d.between(1, number))
		}
		for range d.between(1, 4) {
			q.growths = append(q.growths, d.between(1, 5))
		}
		q.round, _ = rounds.Round(l)
		q.sweep, _ = rounds.Sweep(q.growths)
		q.bound, _ = rounds.Bound(q.growths)
		q.times, _ = rounds.Timetable(q.table)
		if cycles := cyclesOf(q.table); len(cycles) > 0 {
			q.cycle = cycles[d.below(len(cycles))]
		}
		list = append(list, q)
	}
	return append(list, good(), hopeless())
}

// TestAgain: the same calls give the same results, and change no argument.
func TestAgain(t *testing.T) {
	for _, q := range manyQuestions() {
		kept := q.clone()
		first := answers(q)
		for range 5 {
			sameText(t, "again", answers(q), first)
		}
		sameText(t, "arguments", q, kept)
	}
}

// TestResultsAreNew: changing a result, or what lies behind its end, changes neither an
// argument nor a later result.
func TestResultsAreNew(t *testing.T) {
	for _, q := range manyQuestions() {
		kept := q.clone()
		first := answers(q)
		round, _ := rounds.Round(q.tasks)
		next, _ := rounds.Next(q.tasks, q.state, q.task)
		last, _ := rounds.Last(q.tasks)
		sweep, _ := rounds.Sweep(q.growths)
		times, _ := rounds.Timetable(q.table)
		for _, l := range [][]int{round, next, last, sweep, times} {
			for i := range l[:cap(l)] {
				l[:cap(l)][i] = -7
			}
		}
		sameText(t, "arguments", q, kept)
		sameText(t, "results", answers(q), first)
	}
}
