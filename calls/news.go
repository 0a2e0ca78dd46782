package calls

import "slices"

// none stands for a time that there is not.
const none = -1

// arrivals returns for each person the earliest arrival of a way from s: 0 for s, and none
// for whom there is no way.
func (d diary) arrivals(s int) []int {
	times := slices.Repeat([]int{none}, d.N)
	times[s] = 0
	for _, c := range d.all() {
		// Whoever was reached was so before the Time of this call: a person has one call
		// at a Time.
		switch {
		case times[c.A] == none && times[c.B] != none:
			times[c.A] = c.Time
		case times[c.B] == none && times[c.A] != none:
			times[c.B] = c.Time
		}
	}
	return times
}

// departures returns for each person the latest time at which a way to t leaves: one after
// the last Time for t, and none for whom there is no way.
func (d diary) departures(t int) []int {
	back, _ := newDiary(d.turned())
	times := back.arrivals(t)
	for p, time := range times {
		if time != none {
			times[p] = backward(time)
		}
	}
	return times
}

// news returns for each person the set of people whose news they have in the end, and the
// calls in which nobody hears anything new.
func (d diary) news() (sets, idle []int) {
	for p := range d.N {
		sets = append(sets, 1<<p)
	}
	for i, c := range d.all() {
		if sets[c.A] == sets[c.B] {
			idle = append(idle, i)
		}
		sets[c.A] |= sets[c.B]
		sets[c.B] = sets[c.A]
	}
	return sets, idle
}

// spread returns the sets of those who have the news of s, at first, and after each Time at
// which there is a call.
func (d diary) spread(s int) []int {
	var sets []int
	set, time := 1<<s, 0
	for _, c := range d.all() {
		if c.Time > time {
			sets = append(sets, set)
			time = c.Time
		}
		if set&c.people() != 0 {
			set |= c.people()
		}
	}
	return append(sets, set)
}

// gossip returns a Log of n people with the fewest calls after which all have all news. The
// first people are a core who share all news with each other. Before that the others tell
// person 0 theirs, and after it they hear all from person 0.
func gossip(n int) Log {
	size, core := coreOf(n)
	l, time := Log{N: n}, firstTime
	talk := func() {
		for p := size; p < n; p++ {
			l.Calls = append(l.Calls, Call{0, p, time})
			time++
		}
	}
	talk()
	for _, round := range core {
		for _, c := range round {
			c.Time = time
			l.Calls = append(l.Calls, c)
		}
		time++
	}
	talk()
	return l
}

// coreOf returns how many people the core of gossip has, and its calls by their times.
func coreOf(n int) (int, [][]Call) {
	switch n {
	case 1:
		return 1, nil
	case 2, 3:
		return 2, [][]Call{{{A: 0, B: 1}}}
	}
	return 4, [][]Call{{{A: 0, B: 1}, {A: 2, B: 3}}, {{A: 0, B: 2}, {A: 1, B: 3}}}
}
