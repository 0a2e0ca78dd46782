package calls

import (
	"cmp"
	"iter"
	"math/bits"
	"slices"

	"lampblack/api"
)

const (
	firstTime = 1
	lastTime  = 30
)

// diary is a Log that is valid, of which some calls may be left out.
type diary struct {
	Log
	left int // the set of the calls that are not left out
}

// newDiary returns the diary of a Log, or false if the Log is not valid.
func newDiary(l Log) (diary, bool) {
	if !isCrowd(l.N) || len(l.Calls) > api.MaxCalls {
		return diary{}, false
	}
	d := diary{l, 1<<len(l.Calls) - 1}
	time, busy := firstTime, 0
	for _, c := range l.Calls {
		if !d.arePair(c.A, c.B) || c.Time < time || c.Time > lastTime {
			return diary{}, false
		}
		if c.Time > time {
			time, busy = c.Time, 0
		}
		if busy&c.people() != 0 {
			return diary{}, false
		}
		busy |= c.people()
	}
	return d, true
}

// isCrowd reports whether a Log can have n people.
func isCrowd(n int) bool { return n >= 1 && n <= api.MaxPeople }

// isPerson reports whether a number is a person.
func (d diary) isPerson(p int) bool { return p >= 0 && p < d.N }

// arePair reports whether two numbers are different people.
func (d diary) arePair(a, b int) bool { return d.isPerson(a) && d.isPerson(b) && a != b }

// people returns the set of the two people of a call.
func (c Call) people() int { return 1<<c.A | 1<<c.B }

// has reports whether an element is in a set.
func has(set, element int) bool { return set>>element&1 == 1 }

// count returns the number of elements of a set.
func count(set int) int { return bits.OnesCount(uint(set)) }

// all goes through the calls that are not left out, in their order.
func (d diary) all() iter.Seq2[int, Call] {
	return func(yield func(i int, c Call) bool) {
		for i, c := range d.Calls {
			if has(d.left, i) && !yield(i, c) {
				return
			}
		}
	}
}

// only is the diary in which all calls but those of a set are left out.
func (d diary) only(calls int) diary {
	d.left &= calls
	return d
}

// without is the diary in which the calls of a set of people are left out, too.
func (d diary) without(people int) diary {
	for i, c := range d.all() {
		if c.people()&people != 0 {
			d.left &^= 1 << i
		}
	}
	return d
}

// turned returns the Log backward. Calls of one Time keep their order.
func (d diary) turned() Log {
	calls := slices.Clone(d.Calls)
	for i := range calls {
		calls[i].Time = backward(calls[i].Time)
	}
	slices.SortStableFunc(calls, func(a, b Call) int { return cmp.Compare(a.Time, b.Time) })
	return Log{d.N, calls}
}

// backward returns what a time becomes when the times are gone through backward.
func backward(time int) int { return firstTime + lastTime - time }
