package calls_test

import (
	"cmp"
	"fmt"
	"math"
	"math/bits"
	"slices"
	"testing"

	"lampblack/api"
	"lampblack/calls"
)

type (
	call = calls.Call
	log  = calls.Log
)

// dice are numbers that look like chance and are always the same.
type dice uint64

func (d *dice) below(n int) int {
	*d = *d*6364136223846793005 + 1442695040888963407
	return int(uint64(*d) >> 33 % uint64(n))
}

// between returns a number from low to high.
func (d *dice) between(low, high int) int { return low + d.below(high-low+1) }

// order returns the numbers from 0 to n - 1 in some order.
func (d *dice) order(n int) []int {
	list := make([]int, n)
	for i := range list {
		j := d.below(i + 1)
		list[i] = list[j]
		list[j] = i
	}
	return list
}

func same[T comparable](t *testing.T, what string, got, want T) {
	t.Helper()
	if got != want {
		t.Errorf("%s: got %v, want %v", what, got, want)
	}
}

// sameText compares values by their text, for which nil and empty are the same.
func sameText(t *testing.T, what string, got, want any) {
	t.Helper()
	if g, w := fmt.Sprint(got), fmt.Sprint(want); g != w {
		t.Errorf("%s: got %s, want %s", what, g, w)
	}
}

func text(values ...any) string { return fmt.Sprint(values...) }

// extremes are numbers that are far from every number that the chapter allows.
var extremes = []int{math.MinInt, math.MinInt + 1, -1 << 32, -64, -1, 64, 1 << 31, 1 << 32, 1 << 62, math.MaxInt - 1, math.MaxInt}

func has(set, element int) bool { return set>>element&1 == 1 }

func count(set int) int { return bits.OnesCount(uint(set)) }

// slicesOf returns all slices of n numbers from low to high, in order.
func slicesOf(n, low, high int) [][]int {
	list := [][]int{{}}
	for range n {
		var longer [][]int
		for _, l := range list {
			for number := low; number <= high; number++ {
				longer = append(longer, append(slices.Clone(l), number))
			}
		}
		list = longer
	}
	return list
}

// talks is a log of n people with calls at rising Times.
func talks(n int, pairs ...[2]int) log {
	l := log{N: n}
	for i, p := range pairs {
		l.Calls = append(l.Calls, call{p[0], p[1], i + 1})
	}
	return l
}

// pairsOf returns all pairs of n people, the lesser person first.
func pairsOf(n int) [][2]int {
	var pairs [][2]int
	for b := range n {
		for a := range b {
			pairs = append(pairs, [2]int{a, b})
		}
	}
	return pairs
}

// mayCall reports whether a person of a call has another one at its Time.
func mayCall(l log, c call) bool {
	for _, other := range l.Calls {
		if other.Time == c.Time && (other.A == c.A || other.A == c.B || other.B == c.A || other.B == c.B) {
			return false
		}
	}
	return true
}

// inTime is the log with its calls in the order of Time.
func inTime(l log) log {
	slices.SortStableFunc(l.Calls, func(a, b call) int { return cmp.Compare(a.Time, b.Time) })
	return l
}

// allLogs returns all logs of n people with so many calls, the lesser person first, of which
// each one is at the Time of the one before, or one later.
func allLogs(n, number int) []log {
	list := []log{{N: n}}
	for range number {
		var longer []log
		for _, l := range list {
			time := 1
			if len(l.Calls) > 0 {
				time = l.Calls[len(l.Calls)-1].Time
			}
			for later := range 2 {
				for _, p := range pairsOf(n) {
					c := call{p[0], p[1], time + later}
					if mayCall(l, c) {
						longer = append(longer, log{n, append(slices.Clone(l.Calls), c)})
					}
				}
			}
		}
		list = longer
	}
	return list
}

// someLog returns a log of at most so many people, calls, and Times. Some of its people may
// never call.
func someLog(d *dice, people, number, times int) log {
	l := log{N: d.between(2, people)}
	order := d.order(l.N)
	callers, first := d.between(2, l.N), d.between(1, 31-times)
	for range d.between(0, number) {
		a := d.below(callers)
		b := (a + d.between(1, callers-1)) % callers
		c := call{order[a], order[b], first + d.below(times)}
		if mayCall(l, c) {
			l.Calls = append(l.Calls, c)
		}
	}
	return inTime(l)
}

// farLog returns a log in which the persons 0 and n - 1 have no call with each other.
func farLog(d *dice, n, number, times int) log {
	l := log{N: n}
	for range number {
		a := d.below(n)
		b := (a + d.between(1, n-1)) % n
		c := call{a, b, d.between(1, times)}
		if mayCall(l, c) && a+b != n-1 {
			l.Calls = append(l.Calls, c)
		}
	}
	return inTime(l)
}

// knot is a log in which of three ways from 0 to 4 each two have a person in common, but
// no person is in all three.
func knot() log {
	return talks(5, [2]int{0, 1}, [2]int{1, 2}, [2]int{2, 4}, [2]int{0, 2}, [2]int{2, 3}, [2]int{1, 3}, [2]int{3, 4})
}

// knotLog returns a log of a knot from 0 to n - 1 through other people, at later Times, and
// with some other calls.
func knotLog(d *dice, n, others int) log {
	names := []int{0}
	for _, p := range d.order(n - 2) {
		names = append(names, p+1)
	}
	names = append(names[:4], n-1)
	l := log{N: n}
	for _, c := range knot().Calls {
		l.Calls = append(l.Calls, call{names[c.A], names[c.B], 4 * c.Time})
	}
	for range others {
		a := d.below(n)
		c := call{a, (a + d.between(1, n-1)) % n, d.between(1, 30)}
		if mayCall(l, c) && c.A+c.B != n-1 {
			l.Calls = append(l.Calls, c)
		}
	}
	return inTime(l)
}

// knownLogs returns logs of well-known kinds, some of them at the edges of what is valid.
func knownLogs() []log {
	list := []log{
		{N: 3, Calls: []call{{0, 1, 1}, {1, 2, 2}, {0, 2, 5}}},
		{N: 3, Calls: []call{{1, 2, 1}, {0, 1, 2}}},
		{N: 4, Calls: []call{{0, 1, 1}, {2, 3, 1}, {0, 2, 2}, {1, 3, 2}}},
		{N: 1}, {N: 2}, {N: 7}, {N: 1, Calls: []call{}}, {N: 2, Calls: []call{{0, 1, 1}}}, {N: 2, Calls: []call{{1, 0, 30}}},
		{N: 7, Calls: []call{{5, 6, 1}}}, {N: 6, Calls: []call{{0, 1, 30}, {3, 2, 30}, {4, 5, 30}}},
		{N: 7, Calls: []call{{5, 4, 1}, {0, 6, 1}, {1, 2, 1}, {6, 5, 30}, {1, 0, 30}, {3, 2, 30}}},
		{N: 3, Calls: []call{{0, 1, 2}, {1, 2, 29}, {0, 1, 30}}},
		knot(), talks(4, [2]int{0, 1}, [2]int{0, 1}, [2]int{0, 2}, [2]int{1, 3}, [2]int{2, 3}),
		talks(7, slices.Repeat([][2]int{{6, 0}}, 24)...), talks(3, slices.Repeat([][2]int{{0, 1}, {1, 2}}, 12)...),
		talks(7, slices.Repeat([][2]int{{0, 1}, {1, 2}, {2, 3}, {3, 4}, {4, 5}, {5, 6}}, 4)...),
		talks(7, slices.Repeat([][2]int{{5, 6}, {4, 5}, {3, 4}, {2, 3}, {1, 2}, {0, 1}}, 4)...),
		talks(7, pairsOf(7)...), talks(6, pairsOf(6)...), talks(5, slices.Repeat(pairsOf(5), 2)...), talks(4, slices.Repeat(pairsOf(4), 4)...),
	}
	for n := 1; n <= api.MaxPeople; n++ {
		l, _ := calls.Gossip(n)
		list = append(list, l)
	}
	crowded := log{N: 7}
	for time := 1; time <= 8; time++ {
		for p := range 3 {
			crowded.Calls = append(crowded.Calls, call{(2*p + time) % 7, (2*p + time + 1) % 7, time})
		}
	}
	return append(list, crowded)
}

// smallLogs returns all logs of at most 4 people with few calls, and some with some more.
func smallLogs() []log {
	d := dice(61)
	list := knownLogs()
	for n := 2; n <= 3; n++ {
		for number := range 5 {
			list = append(list, allLogs(n, number)...)
		}
	}
	for number := range 4 {
		list = append(list, allLogs(4, number)...)
	}
	for range 300 {
		list = append(list, someLog(&d, 4, 8, 8), someLog(&d, 5, 9, 4), someLog(&d, 5, 9, 30), farLog(&d, 5, 9, 12))
	}
	return list
}

// largeLogs returns some logs of up to 7 people and 24 calls.
func largeLogs() []log {
	d := dice(62)
	var list []log
	for i := range 60 {
		list = append(list, someLog(&d, 7, 24, 30), someLog(&d, 7, 24, 9), someLog(&d, 6, 12, 12), farLog(&d, 6, 12, 30), farLog(&d, 7, 20, 30), farLog(&d, 7, 24, 12))
		list = append(list, knotLog(&d, 5+i%3, i%4), knotLog(&d, 6, i%8), knotLog(&d, 7, 2+i%15))
	}
	// Logs with long ways: most calls are between people whose numbers are near.
	for range 60 {
		l := log{N: 7}
		for i := range 24 {
			a, near := d.below(6), d.between(1, d.between(1, 2))
			if c := (call{a, min(a+near, 6), i + 1}); c.A != c.B {
				l.Calls = append(l.Calls, c)
			}
		}
		list = append(list, l)
	}
	for len(list) < 660 {
		if l := someLog(&d, 7, 40, 30); len(l.Calls) == 24 {
			list = append(list, l)
		}
	}
	return list
}

// manyLogs returns logs of all kinds.
func manyLogs() []log { return slices.Concat(smallLogs(), largeLogs()) }

// pairs returns all pairs of different people of a log, in both directions, if it is small,
// and some of them else.
func pairs(l log) [][2]int {
	var list [][2]int
	d := dice(len(l.Calls))
	for _, c := range l.Calls {
		d = d<<1 + dice(c.Time)
	}
	for s := range l.N {
		for t := range l.N {
			far := s+t == l.N-1 && s < t
			if s != t && (len(l.Calls) < 5 || l.N < 4 || far || d.below(8) == 0) {
				list = append(list, [2]int{s, t})
			}
		}
	}
	return list
}

// without is a log without the calls for which out is true.
func without(l log, out func(i int, c call) bool) log {
	left := log{N: l.N}
	for i, c := range l.Calls {
		if !out(i, c) {
			left.Calls = append(left.Calls, c)
		}
	}
	return left
}

// routes returns all slices of different people from s to t.
func routes(n, s, t int) [][]int {
	var list [][]int
	var goOn func(route []int)
	goOn = func(route []int) {
		for p := range n {
			if slices.Contains(route, p) {
				continue
			}
			longer := append(slices.Clone(route), p)
			if p == t {
				list = append(list, longer)
			} else {
				goOn(longer)
			}
		}
	}
	goOn([]int{s})
	return list
}

// waysAlong returns all ways in time that reach the people of a route one after the other.
func waysAlong(l log, route []int) [][]int {
	list := [][]int{{}}
	for k := range route[1:] {
		var longer [][]int
		for _, way := range list {
			for i, c := range l.Calls {
				there := c.A == route[k] && c.B == route[k+1] || c.B == route[k] && c.A == route[k+1]
				if there && (k == 0 || c.Time > l.Calls[way[k-1]].Time) {
					longer = append(longer, append(slices.Clone(way), i))
				}
			}
		}
		list = longer
	}
	return list
}

// waysOf returns all ways in time from s to t, in order, by trying all routes.
func waysOf(l log, s, t int) [][]int {
	var list [][]int
	for _, route := range routes(l.N, s, t) {
		list = append(list, waysAlong(l, route)...)
	}
	slices.SortFunc(list, slices.Compare)
	return list
}

func leaves(l log, way []int) int { return l.Calls[way[0]].Time }

func arrives(l log, way []int) int { return l.Calls[way[len(way)-1]].Time }

// isValid reports whether a log is valid, by the definition.
func isValid(l log) bool {
	if l.N < 1 || l.N > 7 || len(l.Calls) > 24 {
		return false
	}
	for i, c := range l.Calls {
		if c.A < 0 || c.A >= l.N || c.B < 0 || c.B >= l.N || c.A == c.B || c.Time < 1 || c.Time > 30 {
			return false
		}
		if i > 0 && l.Calls[i-1].Time > c.Time || !mayCall(log{l.N, l.Calls[:i]}, c) {
			return false
		}
	}
	return true
}

// badLogs returns what is no valid log.
func badLogs() map[string]log {
	with := func(list ...call) log { return log{N: 5, Calls: append([]call{{0, 1, 3}}, list...)} }
	many := talks(7, slices.Repeat([][2]int{{0, 1}}, 25)...)
	list := map[string]log{
		"zero": {}, "nobody": {N: 0, Calls: []call{}}, "eight": {N: api.MaxPeople + 1}, "nobody calls nobody": {Calls: []call{{0, 0, 1}}},
		"one calls": {N: 1, Calls: []call{{0, 0, 1}}}, "one calls another": {N: 1, Calls: []call{{0, 1, 1}}}, "one is called": {N: 1, Calls: []call{{1, 0, 1}}},
		"25 calls": many, "64 calls": {N: 2, Calls: slices.Repeat([]call{{0, 1, 1}}, 64)}, "very many": {N: 2, Calls: slices.Repeat([]call{{0, 1, 1}}, 1<<20)},
		"very many zeros": {N: 2, Calls: make([]call, 1<<20)},
		"same person":     with(call{2, 2, 4}), "A 5": with(call{5, 2, 4}), "B 5": with(call{2, 5, 4}), "A -1": with(call{-1, 2, 4}), "B -1": with(call{2, -1, 4}),
		"time 0": {N: 3, Calls: []call{{0, 1, 0}}}, "time -1": {N: 3, Calls: []call{{0, 1, -1}, {0, 1, 1}}}, "time 31": with(call{2, 3, 31}), "first at 31": {N: 3, Calls: []call{{0, 1, 31}}},
		"earlier": with(call{2, 3, 2}), "earlier behind": with(call{2, 3, 4}, call{1, 4, 3}), "earlier in the middle": with(call{2, 3, 2}, call{2, 3, 3}),
		"twice": with(call{0, 1, 3}), "turned": with(call{1, 0, 3}), "A and A": with(call{0, 2, 3}), "A and B": with(call{2, 0, 3}), "B and A": with(call{1, 2, 3}), "B and B": with(call{2, 1, 3}),
		"one between": with(call{2, 3, 3}, call{4, 0, 3}), "one between, other end": with(call{2, 3, 3}, call{1, 4, 3}),
		"later": with(call{0, 1, 4}, call{2, 3, 4}, call{2, 4, 4}),
	}
	for _, number := range extremes {
		name := fmt.Sprint("extreme ", number)
		list[name+" people"] = log{N: number}
		list[name+" people who call"] = log{N: number, Calls: []call{{0, 1, 1}}}
		list[name+" A"] = with(call{number, 2, 4})
		list[name+" B"] = with(call{2, number, 4})
		list[name+" ends"] = with(call{number, number, 4})
		list[name+" time"] = with(call{2, 3, number})
		list[name+" first time"] = log{N: 2, Calls: []call{{0, 1, number}}}
	}
	return list
}

// badPeople returns what are no people of a log.
func badPeople(l log) []int { return append([]int{-1, l.N, l.N + 1, 7, 8, 63, 65}, extremes...) }
