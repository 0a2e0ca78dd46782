package rounds

import (
	"math/bits"

	"lampblack/api"
)

const (
	mostPeriod = 12
	mostSpans  = 12
	mostLow    = 11
	mostRoom   = 11 // between Low and High
)

// plan is a Table that is valid.
type plan Table

// newPlan returns the plan of a Table, or false if the Table is not valid.
func newPlan(t Table) (plan, bool) {
	if t.Period < 1 || t.Period > mostPeriod || t.Events < 1 || t.Events > api.MaxEvents {
		return plan{}, false
	}
	if len(t.Spans) > mostSpans {
		return plan{}, false
	}
	p := plan(t)
	for _, s := range p.Spans {
		if !p.isEvent(s.From) || !p.isEvent(s.To) || s.From == s.To {
			return plan{}, false
		}
		if s.Low < 0 || s.Low > mostLow || s.High < s.Low || s.High > s.Low+mostRoom {
			return plan{}, false
		}
	}
	return p, true
}

// isEvent reports whether a number is an event.
func (p plan) isEvent(event int) bool { return event >= 0 && event < p.Events }

// remainder returns what is left of a number, which may be negative, without a multiple of
// n: from 0 to n - 1.
func remainder(a, n int) int { return (a%n + n) % n }

// keeps reports whether times keep a Span.
func (p plan) keeps(s Span, times []int) bool {
	return remainder(times[s.To]-times[s.From]-s.Low, p.Period) <= s.High-s.Low
}

// isRight reports whether l, which may be any slice, is a right timetable.
func (p plan) isRight(l []int) bool {
	if len(l) != p.Events {
		return false
	}
	for _, time := range l {
		if time < 0 || time >= p.Period {
			return false
		}
	}
	return p.kept(l) == p.settled(l)
}

// settled returns the set of the Spans between events that have times. The first events
// have them.
func (p plan) settled(times []int) int {
	set := 0
	for i, s := range p.Spans {
		if max(s.From, s.To) < len(times) {
			set |= 1 << i
		}
	}
	return set
}

// kept returns the set of the Spans that the times of the first events keep.
func (p plan) kept(times []int) int {
	set := 0
	for i, s := range p.Spans {
		if max(s.From, s.To) < len(times) && p.keeps(s, times) {
			set |= 1 << i
		}
	}
	return set
}

// complete returns the first right timetable that begins with the times of the first
// events, or false if there is none.
func (p plan) complete(times []int) ([]int, bool) {
	if p.kept(times) != p.settled(times) {
		return nil, false
	}
	if len(times) == p.Events {
		return times, true
	}
	for time := range p.Period {
		if found, ok := p.complete(append(times, time)); ok {
			return found, true
		}
	}
	return nil, false
}

// blame returns, of the sets of Spans that no timetable keeps all of, the least of those
// with the fewest, or false if some timetable is right.
func (p plan) blame() (int, bool) {
	together := make([]bool, 1<<len(p.Spans))
	// A timetable stays right if a number is added to all times, so event 0 may be at 0.
	p.markKept([]int{0}, together)
	markParts(together)
	all := len(together) - 1
	if together[all] {
		return 0, false
	}
	least := all
	for set, ok := range together {
		if !ok && bits.OnesCount(uint(set)) < bits.OnesCount(uint(least)) {
			least = set
		}
	}
	return least, true
}

// markKept marks each set of Spans that is kept by a timetable that begins with the times
// of the first events.
func (p plan) markKept(times []int, marks []bool) {
	if len(times) == p.Events {
		marks[p.kept(times)] = true
		return
	}
	for time := range p.Period {
		p.markKept(append(times, time), marks)
	}
}

// markParts marks the parts of all sets that are marked.
func markParts(marks []bool) {
	for bit := 1; bit < len(marks); bit <<= 1 {
		for set := range marks {
			if marks[set|bit] {
				marks[set] = true
			}
		}
	}
}
