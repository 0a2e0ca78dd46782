package calls_test

import (
	"slices"
	"testing"

	"lampblack/api"
	"lampblack/calls"
)

// timesOf returns the Times at which there is a call, rising.
func timesOf(l log) []int {
	var times []int
	for _, c := range l.Calls {
		times = append(times, c.Time)
	}
	return slices.Compact(times)
}

// newsBy returns whose news everyone has, at first and after each Time at which there is a
// call, by the definition: the calls of one Time are made at once.
func newsBy(l log) [][]int {
	have := make([]int, l.N)
	for p := range have {
		have[p] = 1 << p
	}
	list := [][]int{have}
	for _, time := range timesOf(l) {
		later := slices.Clone(have)
		for _, c := range l.Calls {
			if c.Time == time {
				later[c.A] |= have[c.B]
				later[c.B] |= have[c.A]
			}
		}
		have = later
		list = append(list, have)
	}
	return list
}

// inTheEnd returns whose news everyone has in the end, by the definition.
func inTheEnd(l log) []int {
	list := newsBy(l)
	return list[len(list)-1]
}

// isGossip reports whether all have all news in the end, by the definition.
func isGossip(l log) bool {
	return !slices.ContainsFunc(inTheEnd(l), func(set int) bool { return set != 1<<l.N-1 })
}

// TestNewsExamples: the examples of the chapter, and others.
func TestNewsExamples(t *testing.T) {
	two := log{3, []call{{1, 2, 1}, {0, 1, 2}}}
	news, e := calls.News(two)
	sameText(t, "News", text(news, e), "[7 7 6] 0")
	four := log{4, []call{{0, 1, 1}, {2, 3, 1}, {0, 2, 2}, {1, 3, 2}}}
	news, e = calls.News(four)
	sameText(t, "News", text(news, e), "[15 15 15 15] 0")
	for _, x := range []struct {
		l    log
		s    int
		want string
	}{
		{two, 0, "[1 1 3] 0"}, {two, 1, "[2 6 7] 0"}, {two, 2, "[4 6 7] 0"},
		{four, 0, "[1 3 15] 0"}, {four, 3, "[8 12 15] 0"},
		{log{N: 1}, 0, "[1] 0"}, {log{N: 7}, 6, "[64] 0"},
		{log{7, []call{{5, 6, 3}, {0, 1, 3}, {6, 0, 30}}}, 5, "[32 96 97] 0"},
		{log{3, []call{{0, 1, 3}, {0, 1, 4}}}, 2, "[4 4 4] 0"},
	} {
		sets, e := calls.Spread(x.l, x.s)
		sameText(t, text("Spread ", x.s, x.l), text(sets, e), x.want)
	}
	for _, x := range []struct {
		l    log
		want string
	}{
		{two, "[] 0"}, {four, "[] 0"}, {log{N: 3}, "[] 0"},
		{talks(3, [2]int{0, 1}, [2]int{1, 0}, [2]int{1, 2}, [2]int{0, 1}, [2]int{0, 2}), "[1 4] 0"},
		// Who hears nothing new may tell something new.
		{talks(3, [2]int{0, 1}, [2]int{1, 2}, [2]int{2, 0}, [2]int{0, 1}), "[3] 0"},
	} {
		idle, e := calls.Idle(x.l)
		sameText(t, text("Idle ", x.l), text(idle, e), x.want)
	}
}

// TestNews: News, against the definition: P6.3. t has the news of s if and only if Arrive
// is not -1, or s is t: P6.8.
func TestNews(t *testing.T) {
	all, notAll := 0, 0
	for _, l := range manyLogs() {
		news, e := calls.News(l)
		sameText(t, text("News ", l), text(news, e), text(inTheEnd(l), api.OK))
		for s := range l.N {
			arrive, _ := calls.Arrive(l, s)
			for p := range l.N {
				same(t, text("News of ", s, " of ", p, l), has(news[p], s), arrive[p] != -1 || s == p)
			}
		}
		if isGossip(l) {
			all++
		} else {
			notAll++
		}
	}
	if all < 100 || notAll < 1000 {
		t.Error("too few of a kind:", all, notAll)
	}
}

// setOf returns the set of the people of a log for whom is is true.
func setOf(l log, is func(p int) bool) int {
	set := 0
	for p := range l.N {
		if is(p) {
			set |= 1 << p
		}
	}
	return set
}

// TestSpread: Spread, against the definition: P6.3. Its last element is the set of those
// who have the news in the end: P6.9. The others are those of whom a way has arrived.
func TestSpread(t *testing.T) {
	atOnce := 0
	for _, l := range manyLogs() {
		list := newsBy(l)
		news, _ := calls.News(l)
		for s := range l.N {
			var want []int
			for _, have := range list {
				want = append(want, setOf(l, func(p int) bool { return has(have[p], s) }))
			}
			sets, e := calls.Spread(l, s)
			sameText(t, text("Spread ", s, l), text(sets, e), text(want, api.OK))
			last := setOf(l, func(p int) bool { return has(news[p], s) })
			same(t, text("the end of Spread ", s, l), sets[len(sets)-1], last)
			arrive, _ := calls.Arrive(l, s)
			reached := []int{1 << s}
			for _, time := range timesOf(l) {
				reached = append(reached, setOf(l, func(p int) bool { return arrive[p] >= 0 && arrive[p] <= time }))
			}
			sameText(t, text("reached from ", s, l), reached, sets)
		}
		if len(list) <= len(l.Calls) {
			atOnce++
		}
	}
	if atOnce < 300 {
		t.Error("too few of a kind:", atOnce)
	}
}

// TestIdle: Idle, against the definition: P6.4. Without its Idle calls, one after the other
// in any order, or all at once, a Log gives the same News: P6.10.
func TestIdle(t *testing.T) {
	idleLogs := 0
	d := dice(64)
	for _, l := range manyLogs() {
		idle, e := calls.Idle(l)
		list, times := newsBy(l), timesOf(l)
		var want []int
		for i, c := range l.Calls {
			before := list[slices.Index(times, c.Time)]
			after := list[slices.Index(times, c.Time)+1]
			if before[c.A] == after[c.A] && before[c.B] == after[c.B] {
				want = append(want, i)
			}
		}
		sameText(t, text("Idle ", l), text(idle, e), text(want, api.OK))
		news, _ := calls.News(l)
		left := without(l, func(i int, c call) bool { return slices.Contains(idle, i) })
		others, _ := calls.News(left)
		sameText(t, text("News without Idle ", l), others, news)
		none, _ := calls.Idle(left)
		sameText(t, text("Idle without Idle ", l), none, "[]")
		if len(idle) > 1 {
			idleLogs++
		}
		for left := l; len(idle) > 0; idle, _ = calls.Idle(left) {
			out := idle[d.below(len(idle))]
			left = without(left, func(i int, c call) bool { return i == out })
			others, _ := calls.News(left)
			sameText(t, text("News without an Idle call ", l), others, news)
		}
	}
	if idleLogs < 300 {
		t.Error("too few of a kind:", idleLogs)
	}
}

// TestGossip: Gossip is a valid Log in which all have all news in the end, and has as many
// calls as Needed says: P6.4, P6.10.
func TestGossip(t *testing.T) {
	for n, want := range map[int]int{1: 0, 2: 1, 3: 3, 4: 4, 5: 6, 6: 8, 7: 10} {
		l, e := calls.Gossip(n)
		same(t, "Gossip", e, api.OK)
		same(t, "people of Gossip", l.N, n)
		same(t, "calls of Gossip", len(l.Calls), want)
		if !isValid(l) || !isGossip(l) {
			t.Error("no gossip:", l)
		}
		news, e := calls.News(l)
		sameText(t, "News of Gossip", text(news, e), text(slices.Repeat([]int{1<<n - 1}, n), api.OK))
		idle, e := calls.Idle(l)
		sameText(t, "Idle of Gossip", text(idle, e), "[] 0")
		needed, e := calls.Needed(n)
		sameText(t, "Needed", text(needed, e), text(want, api.OK))
	}
	for _, n := range append([]int{0, 8, 9, 63, 65}, extremes...) {
		l, e := calls.Gossip(n)
		sameText(t, text("Gossip ", n), text(l, e), text(log{}, api.ErrArg))
		needed, e := calls.Needed(n)
		sameText(t, text("Needed ", n), text(needed, e), text(0, api.ErrArg))
	}
}

// TestNoLessGossip: a Log with fewer calls is no gossip: P6.10. For up to 5 people all
// logs with one call less are tried, since calls of one Time may as well come one after the
// other, and a call more spoils no gossip.
func TestNoLessGossip(t *testing.T) {
	for n := 2; n <= 5; n++ {
		needed, _ := calls.Needed(n)
		var goOn func(l log)
		goOn = func(l log) {
			if len(l.Calls) < needed-1 {
				for _, p := range pairsOf(n) {
					goOn(log{n, append(l.Calls, call{p[0], p[1], len(l.Calls) + 1})})
				}
				return
			}
			news, e := calls.News(l)
			all := !slices.ContainsFunc(news, func(set int) bool { return set != 1<<n-1 })
			if all || e != api.OK {
				t.Error("gossip", l, news, e)
			}
		}
		goOn(log{N: n})
	}
}

// TestNoLessGossipOfMany: a Log of 6 or 7 people with fewer calls is no gossip, also if it
// was gossip but for some calls: P6.10.
func TestNoLessGossipOfMany(t *testing.T) {
	d := dice(65)
	for n := 6; n <= api.MaxPeople; n++ {
		l, _ := calls.Gossip(n)
		for range 20000 {
			order := d.order(n)
			less := log{N: n}
			for i, j := range d.order(len(l.Calls)) {
				c := l.Calls[i]
				if d.below(4) == 0 {
					c = l.Calls[j]
				}
				less.Calls = append(less.Calls, call{order[c.A], order[c.B], i + 1})
			}
			out := d.below(len(less.Calls))
			less.Calls = slices.Delete(less.Calls, out, out+1)
			news, e := calls.News(less)
			all := !slices.ContainsFunc(news, func(set int) bool { return set != 1<<n-1 })
			if all || e != api.OK {
				t.Error("gossip", less, news, e)
			}
		}
	}
}
