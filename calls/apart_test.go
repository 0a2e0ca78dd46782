package calls_test

import (
	"slices"
	"testing"

	"lampblack/api"
	"lampblack/calls"
)

// callsOf returns the set of the calls of a way.
func callsOf(way []int) int {
	set := 0
	for _, i := range way {
		set |= 1 << i
	}
	return set
}

// callSets returns the sets of the calls of ways.
func callSets(ways [][]int) []int {
	var sets []int
	for _, way := range ways {
		sets = append(sets, callsOf(way))
	}
	return sets
}

// mostOf returns the greatest number of elements of which any two are apart.
func mostOf[T any](list []T, areApart func(a, b T) bool) int {
	most := 0
	var goOn func(number int, list []T)
	goOn = func(number int, list []T) {
		most = max(most, number)
		for i, a := range list {
			if number+len(list)-i <= most {
				return
			}
			var left []T
			for _, b := range list[i+1:] {
				if areApart(a, b) {
					left = append(left, b)
				}
			}
			goOn(number+1, left)
		}
	}
	goOn(0, list)
	return most
}

// isCut reports whether each way has a call of a slice.
func isCut(sets, cut []int) bool {
	return !slices.ContainsFunc(sets, func(set int) bool { return set&callsOf(cut) == 0 })
}

// leastNumber returns a number of calls that a cut has at least: some ways have no call in
// common.
func leastNumber(sets []int) int {
	used, number := 0, 0
	for _, set := range sets {
		if set&used == 0 {
			used |= set
			number++
		}
	}
	return number
}

// firstCut returns the first one of the rising slices of at most so many indices, none of
// them less than from, with a call of each way, or false if there is none. There must be
// none of fewer indices.
func firstCut(sets []int, from, number int) ([]int, bool) {
	if len(sets) == 0 {
		return nil, true
	}
	if leastNumber(sets) > number {
		return nil, false
	}
	last := 24
	for _, set := range sets {
		greatest := from - 1
		for i := from; set>>i != 0; i++ {
			if has(set, i) {
				greatest = i
			}
		}
		last = min(last, greatest)
	}
	for i := from; i <= last; i++ {
		left := slices.DeleteFunc(slices.Clone(sets), func(set int) bool { return has(set, i) })
		if cut, ok := firstCut(left, i+1, number-1); ok {
			return append([]int{i}, cut...), true
		}
	}
	return nil, false
}

// TestApartExamples: the example of the chapter, and others.
func TestApartExamples(t *testing.T) {
	three := log{3, []call{{0, 1, 1}, {1, 2, 2}, {0, 2, 5}}}
	ways, e := calls.Apart(three, 0, 2)
	slices.SortFunc(ways, slices.Compare)
	sameText(t, "Apart", text(ways, e), "[[0 1] [2]] 0")
	for _, x := range []struct {
		l    log
		s, t int
		want string
	}{
		{three, 0, 2, "[0 2] 0"}, {three, 2, 0, "[2] 0"}, {three, 2, 1, "[1] 0"}, {three, 1, 0, "[0 1] 0"}, {three, 1, 2, "[0 1] 0"},
		{log{N: 2}, 0, 1, "[] 0"}, {log{3, []call{{1, 2, 1}, {0, 1, 2}}}, 0, 2, "[] 0"},
		{talks(2, [2]int{0, 1}, [2]int{1, 0}, [2]int{0, 1}), 1, 0, "[0 1 2] 0"},
		// Through 1 lead two ways, but one call is in both.
		{talks(3, [2]int{0, 1}, [2]int{1, 2}, [2]int{1, 2}), 0, 2, "[0] 0"},
		{talks(3, [2]int{0, 1}, [2]int{0, 1}, [2]int{1, 2}), 0, 2, "[2] 0"},
		{knot(), 0, 4, "[0 3] 0"},
	} {
		cut, e := calls.Cut(x.l, x.s, x.t)
		sameText(t, text("Cut ", x.s, x.t, x.l), text(cut, e), x.want)
	}
}

// TestTurnedCall: ways that would use a call in both directions are changed so that neither
// does.
func TestTurnedCall(t *testing.T) {
	// The first way found is 0 1 2 5 through call 2; the second one has to go back over it.
	l := talks(6, [2]int{0, 1}, [2]int{0, 2}, [2]int{1, 2}, [2]int{2, 5}, [2]int{1, 5})
	ways, e := calls.Apart(l, 0, 5)
	same(t, "ways", len(ways), 2)
	same(t, "OK", e, api.OK)
	for _, way := range ways {
		ok, _ := calls.Check(l, 0, 5, way)
		same(t, text("Check ", way), ok, true)
	}
}

// TestApart: the ways of Apart are ways of which any two are apart, and Cut has a call of
// each way and as many calls: so there are no more such ways, nor fewer such calls: P6.5,
// P6.11. Cut is the first such slice.
func TestApart(t *testing.T) {
	number := make([]int, 25)
	for _, l := range manyLogs() {
		for _, p := range pairs(l) {
			sets := callSets(waysOf(l, p[0], p[1]))
			ways, e := calls.Apart(l, p[0], p[1])
			same(t, text("Apart ", p, l), e, api.OK)
			for _, way := range ways {
				ok, e := calls.Check(l, p[0], p[1], way)
				same(t, text("Check ", p, way, l), text(ok, e), "true 0")
				same(t, text("a way of ", p, l), slices.Contains(sets, callsOf(way)), true)
			}
			same(t, text("apart ", p, ways, l), leastNumber(callSets(ways)), len(ways))
			cut, e := calls.Cut(l, p[0], p[1])
			same(t, text("Cut ", p, l), e, api.OK)
			same(t, text("calls of Cut ", p, l), len(cut), len(ways))
			same(t, text("Cut cuts ", p, cut, l), isCut(sets, cut), true)
			want, _ := firstCut(sets, 0, len(ways))
			sameText(t, text("the first Cut ", p, l), cut, want)
			number[len(ways)]++
		}
	}
	for i, least := range []int{5000, 2000, 1000, 500, 100, 30, 20, 10} {
		if number[i] < least {
			t.Error("too few of a kind:", number)
		}
	}
}

// TestApartByAll: the numbers of Apart and Cut, against all sets of ways and of calls: P6.5.
func TestApartByAll(t *testing.T) {
	for i, l := range smallLogs() {
		if len(l.Calls) > 8 || i%3 != 0 {
			continue
		}
		for _, p := range pairs(l) {
			sets := callSets(waysOf(l, p[0], p[1]))
			ways, _ := calls.Apart(l, p[0], p[1])
			same(t, text("Apart ", p, l), len(ways), mostOf(sets, func(a, b int) bool { return a&b == 0 }))
			var want []int
			found := false
			for set := range 1 << len(l.Calls) {
				var cut []int
				for i := range l.Calls {
					if has(set, i) {
						cut = append(cut, i)
					}
				}
				better := !found || len(cut) < len(want) || len(cut) == len(want) && slices.Compare(cut, want) < 0
				if better && isCut(sets, cut) {
					want, found = cut, true
				}
			}
			cut, _ := calls.Cut(l, p[0], p[1])
			sameText(t, text("Cut ", p, l), cut, want)
		}
	}
}

// TestWithoutCut: without the calls of Cut there is no way, but without fewer of them there
// is one.
func TestWithoutCut(t *testing.T) {
	for i, l := range largeLogs() {
		if i%5 != 0 {
			continue
		}
		for _, p := range pairs(l) {
			cut, _ := calls.Cut(l, p[0], p[1])
			left := without(l, func(i int, c call) bool { return slices.Contains(cut, i) })
			arrive, _ := calls.Arrive(left, p[0])
			same(t, text("without Cut ", p, l), arrive[p[1]], -1)
			for k := range cut {
				fewer := slices.Delete(slices.Clone(cut), k, k+1)
				left := without(l, func(i int, c call) bool { return slices.Contains(fewer, i) })
				arrive, _ := calls.Arrive(left, p[0])
				if arrive[p[1]] == -1 {
					t.Error("Cut", cut, "of", p, l, "is too large")
				}
			}
		}
	}
}
