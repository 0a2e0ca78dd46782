package rounds_test

import (
	"fmt"
	"math"
	"slices"
	"testing"

	"lampblack/api"
	"lampblack/rounds"
)

type (
	span  = rounds.Span
	table = rounds.Table
)

// dice are numbers that look like chance and are always the same.
type dice uint64

func (d *dice) below(n int) int {
	*d = *d*6364136223846793005 + 1442695040888963407
	return int(uint64(*d) >> 33 % uint64(n))
}

// between returns a number from low to high.
func (d *dice) between(low, high int) int { return low + d.below(high-low+1) }

func same[T comparable](t *testing.T, what string, got, want T) {
	t.Helper()
	if got != want {
		t.Errorf("%s: got %v, want %v", what, got, want)
	}
}

// sameText compares values by their text, for which nil and empty are the same.
func sameText(t *testing.T, what string, got, want any) {
	t.Helper()
	if g, w := fmt.Sprint(got), fmt.Sprint(want); g != w {
		t.Errorf("%s: got %s, want %s", what, g, w)
	}
}

// extremes are numbers that are far from every number that the chapter allows.
var extremes = []int{math.MinInt, math.MinInt + 1, -1 << 32, -64, -1, 64, 1 << 31, 1 << 32, 1 << 62, math.MaxInt - 1, math.MaxInt}

// slicesOf returns all slices of n numbers from low to high, rising.
func slicesOf(n, low, high int) [][]int {
	list := [][]int{{}}
	for range n {
		var longer [][]int
		for _, l := range list {
			for number := low; number <= high; number++ {
				longer = append(longer, append(slices.Clone(l), number))
			}
		}
		list = longer
	}
	return list
}

func productOf(l []int) int {
	product := 1
	for _, number := range l {
		product *= number
	}
	return product
}

func sumOf(l []int) int {
	sum := 0
	for _, number := range l {
		sum += number
	}
	return sum
}

// tasksOf returns all tasks with n numbers.
func tasksOf(n int) [][]int {
	return slices.DeleteFunc(slicesOf(n, 1, 12), func(l []int) bool { return productOf(l) > 4000 })
}

// fewTasks returns all tasks with at most 3 numbers.
func fewTasks() [][]int { return slices.Concat(tasksOf(1), tasksOf(2), tasksOf(3)) }

// someTasks returns count tasks with n numbers, of which the most are just too many or
// just not.
func someTasks(n, count int) [][]int {
	d := dice(n)
	var list [][]int
	for len(list) < count {
		l := make([]int, n)
		for i := range l {
			l[i] = d.between(1+d.below(4), 12)
		}
		if density := densityOf(l); productOf(l) <= 4000 && density > 0.6 && density < 1.2 {
			list = append(list, l)
		}
	}
	return list
}

// manyTasks returns tasks of all kinds.
func manyTasks() [][]int {
	list := slices.Concat(fewTasks(), someTasks(4, 300), someTasks(5, 300), edgeTasks())
	for _, l := range slices.Concat(tasksOf(4), tasksOf(5)) {
		if slices.IsSorted(l) {
			list = append(list, l)
		}
	}
	return list
}

// edgeTasks returns tasks at the edges of what is valid.
func edgeTasks() [][]int {
	return [][]int{
		{1}, {12}, {1, 1, 1, 1, 1}, {12, 12}, {12, 12, 12}, {1, 1, 1, 1, 12}, {12, 12, 12, 1, 2},
		{10, 10, 10, 4}, {4, 10, 10, 10, 1}, {10, 8, 10, 5, 1}, {5, 5, 5, 4, 8}, {5, 5, 5, 5, 6}, {5, 5, 5, 4, 4},
		{2, 4, 8, 12, 5}, {2, 4, 8, 8}, {4, 2, 8, 8}, {8, 8, 4, 2}, {2, 3, 12}, {3, 12, 2}, {12, 3, 2},
	}
}

func densityOf(l []int) float64 {
	density := 0.0
	for _, number := range l {
		density += 1 / float64(number)
	}
	return density
}

// holds reports whether every task is done at least once in any l[i] days in a row among
// these days: what can be done from the state l without failing.
func holds(l, days []int) bool {
	for i, number := range l {
		for first := 0; first+number <= len(days); first++ {
			if !slices.Contains(days[first:first+number], i) {
				return false
			}
		}
	}
	return true
}

// again returns a round that is done again and again, so often that each 12 days in a row
// that can be met are among the days.
func again(round []int) []int { return slices.Repeat(round, 2+24/len(round)) }

// growthsOf returns all growths of n chimneys.
func growthsOf(n int) [][]int { return slicesOf(n, 1, 5) }

func allGrowths() [][]int {
	return slices.Concat(growthsOf(1), growthsOf(2), growthsOf(3), growthsOf(4))
}

// someTable returns a Table with at most so many events and Spans. The most Spans have
// little room, so that they are often in each other's way.
func someTable(d *dice, period, events, spans int) table {
	t := table{Period: d.between(1, period), Events: d.between(2, events)}
	room := d.between(0, d.between(0, min(11, t.Period)))
	for range d.between(1, spans) {
		from := d.below(t.Events)
		to := (from + d.between(1, t.Events-1)) % t.Events
		low := d.below(12)
		t.Spans = append(t.Spans, span{from, to, low, low + d.between(0, room)})
	}
	return t
}

// sparseTable returns a Table in which each two events have at most one Span, so that only
// longer cycles are in each other's way.
func sparseTable(d *dice, period, events int) table {
	t := table{Period: d.between(2, period), Events: events}
	room := d.between(0, t.Period/2)
	for from := range events {
		for to := from + 1; to < events; to++ {
			if d.below(3) == 0 || len(t.Spans) == 12 {
				continue
			}
			low := d.below(12)
			s := span{from, to, low, low + d.between(0, room)}
			if d.below(2) == 0 {
				s.From, s.To = s.To, s.From
			}
			t.Spans = slices.Insert(t.Spans, d.below(len(t.Spans)+1), s)
		}
	}
	return t
}

// smallTables returns tables that are small enough to try everything.
func smallTables() []table {
	d := dice(11)
	list := knownTables()
	for range 600 {
		list = append(list, someTable(&d, 5, 3, 6), someTable(&d, 4, 4, 7), someTable(&d, 12, 2, 4), sparseTable(&d, 5, 4))
	}
	return slices.DeleteFunc(list, func(t table) bool { return t.Period > 6 && t.Events > 3 })
}

// largeTables returns some tables of up to 12 Spans, and such as have many events.
func largeTables() []table {
	d := dice(12)
	list := knownTables()
	for range 40 {
		list = append(list, someTable(&d, 12, 6, 12), someTable(&d, 6, 6, 9), someTable(&d, 12, 4, 12), sparseTable(&d, 12, 6), sparseTable(&d, 12, 5))
	}
	return list
}

// knownTables returns tables of well-known kinds, some of them at the edges of what is
// valid.
func knownTables() []table {
	ring := func(period, events, low, high int) table {
		t := table{Period: period, Events: events}
		for from := range events {
			t.Spans = append(t.Spans, span{from, (from + 1) % events, low, high})
		}
		return t
	}
	twice := ring(12, 6, 11, 22)
	twice.Spans = append(twice.Spans, twice.Spans...)
	return []table{
		{Period: 4, Events: 2, Spans: []span{{0, 1, 1, 1}, {1, 0, 1, 2}}},
		{Period: 1, Events: 1}, {Period: 12, Events: 1}, {Period: 1, Events: 6}, {Period: 12, Events: 6},
		{Period: 5, Events: 3, Spans: []span{}},
		ring(5, 3, 1, 1), ring(3, 3, 1, 1), ring(6, 3, 2, 2), ring(6, 3, 1, 3), ring(1, 4, 11, 22), ring(1, 2, 0, 0),
		ring(12, 6, 2, 2), ring(12, 6, 1, 1), ring(12, 6, 11, 11), ring(7, 6, 1, 1), ring(12, 6, 3, 4), ring(11, 5, 2, 2), twice,
		{Period: 6, Events: 2, Spans: []span{{0, 1, 1, 1}, {0, 1, 2, 2}, {0, 1, 2, 3}, {0, 1, 1, 2}}},
		{Period: 6, Events: 2, Spans: []span{{0, 1, 5, 8}, {1, 0, 4, 4}}},
		{Period: 3, Events: 4, Spans: []span{{2, 3, 0, 0}, {3, 2, 1, 2}, {0, 1, 0, 0}, {1, 0, 0, 0}, {0, 1, 1, 1}}},
	}
}

// keeps reports whether times keep a Span, by the definition.
func keeps(t table, s span, times []int) bool {
	for number := s.Low; number <= s.High; number++ {
		if (times[s.To]-times[s.From]-number)%t.Period == 0 {
			return true
		}
	}
	return false
}

// keptBy returns the set of the Spans that times keep.
func keptBy(t table, times []int) int {
	set := 0
	for i, s := range t.Spans {
		if keeps(t, s, times) {
			set |= 1 << i
		}
	}
	return set
}

func allSpans(t table) int { return 1<<len(t.Spans) - 1 }

// only is the Table with the Spans of a set alone.
func only(t table, set int) table {
	left := table{Period: t.Period, Events: t.Events}
	for i, s := range t.Spans {
		if set>>i&1 == 1 {
			left.Spans = append(left.Spans, s)
		}
	}
	return left
}

// badTasks returns what are no tasks.
func badTasks() map[string][]int {
	list := map[string][]int{
		"nil": nil, "empty": {}, "six": {2, 2, 2, 2, 2, 2}, "six ones": {1, 1, 1, 1, 1, 1}, "very many": make([]int, 100000),
		"very many ones": slices.Repeat([]int{1}, 1<<20), "zero": {0}, "zero behind": {3, 0}, "zero before": {0, 3}, "thirteen": {13}, "thirteen behind": {2, 13},
		"4032 states": {12, 12, 7, 4}, "4050 states": {9, 9, 10, 5}, "4096 states": {8, 8, 8, 8, 1}, "five twelves": {12, 12, 12, 12, 12},
		"product of 0 and much": {0, 12, 12, 12, 12}, "two negatives": {-2, -3}, "wrapping": {1 << 32, 1 << 32}, "wrapping to 1": {-1, -1, 2},
	}
	for _, number := range extremes {
		list[fmt.Sprint("extreme ", number)] = []int{number}
		list[fmt.Sprint("extreme behind ", number)] = []int{2, 3, number}
	}
	return list
}

// badGrowths returns what are no growths.
func badGrowths() map[string][]int {
	list := map[string][]int{
		"nil": nil, "empty": {}, "five": {1, 1, 1, 1, 1}, "very many": slices.Repeat([]int{1}, 1<<20),
		"zero": {0}, "zero behind": {1, 0}, "zero before": {0, 1}, "six": {6}, "six behind": {1, 1, 1, 6}, "negative": {2, -2},
	}
	for _, number := range extremes {
		list[fmt.Sprint("extreme ", number)] = []int{number}
		list[fmt.Sprint("extreme behind ", number)] = []int{2, 3, number}
	}
	return list
}

// badTables returns what is no valid Table.
func badTables() map[string]table {
	with := func(s span) table { return table{Period: 4, Events: 3, Spans: []span{{0, 1, 1, 2}, s}} }
	list := map[string]table{
		"zero": {}, "period 0": {Period: 0, Events: 2}, "period 13": {Period: 13, Events: 2}, "events 0": {Period: 2, Events: 0},
		"events 7": {Period: 2, Events: api.MaxEvents + 1}, "one event": {Period: 2, Events: 1, Spans: []span{{0, 0, 0, 1}}},
		"thirteen spans": {Period: 4, Events: 2, Spans: slices.Repeat([]span{{0, 1, 1, 2}}, 13)},
		"64 spans":       {Period: 4, Events: 2, Spans: slices.Repeat([]span{{0, 1, 1, 2}}, 64)},
		"very many":      {Period: 4, Events: 2, Spans: slices.Repeat([]span{{0, 1, 1, 2}}, 1<<20)},
		"same event":     with(span{1, 1, 0, 3}), "from 3": with(span{3, 1, 0, 3}), "to 3": with(span{1, 3, 0, 3}),
		"low -1": with(span{0, 2, -1, 3}), "low 12": with(span{0, 2, 12, 13}), "high less": with(span{0, 2, 3, 2}), "high 12 more": with(span{0, 2, 3, 15}),
		"high 12": with(span{0, 2, 0, 12}), "high 23": with(span{0, 2, 11, 23}),
	}
	for _, number := range extremes {
		name := fmt.Sprint("extreme ", number)
		list[name+" period"] = table{Period: number, Events: 2}
		list[name+" events"] = table{Period: 2, Events: number}
		list[name+" from"] = with(span{number, 1, 0, 3})
		list[name+" to"] = with(span{1, number, 0, 3})
		list[name+" ends"] = with(span{number, number, 0, 3})
		list[name+" low"] = with(span{0, 1, number, 3})
		list[name+" high"] = with(span{0, 1, 0, number})
		list[name+" bounds"] = with(span{0, 1, number, number})
	}
	return list
}
