package calls_test

import (
	"slices"
	"strings"
	"testing"

	"lampblack/api"
	"lampblack/calls"
)

// question has an argument for each function.
type question struct {
	log  log
	s, t int
	way  []int
	n    int // of Gossip
}

func (q question) clone() question {
	c := q
	c.log.Calls, c.way = slices.Clone(q.log.Calls), slices.Clone(q.way)
	return c
}

// ofLog returns the results of the functions of a log alone as texts.
func ofLog(q question) []string {
	news, e1 := calls.News(q.log)
	idle, e2 := calls.Idle(q.log)
	back, e3 := calls.Turn(q.log)
	return []string{text(news, " ", e1), text(idle, " ", e2), text(back, " ", e3)}
}

// ofPerson returns the results of the functions of a log and a person as texts.
func ofPerson(q question) []string {
	arrive, e1 := calls.Arrive(q.log, q.s)
	leave, e2 := calls.Leave(q.log, q.s)
	spread, e3 := calls.Spread(q.log, q.s)
	return []string{text(arrive, " ", e1), text(leave, " ", e2), text(spread, " ", e3)}
}

// ofPair returns the results of the functions of a log and two people as texts.
func ofPair(q question) []string {
	foremost, e1 := calls.Foremost(q.log, q.s, q.t)
	fewest, e2 := calls.Fewest(q.log, q.s, q.t)
	fastest, e3 := calls.Fastest(q.log, q.s, q.t)
	ok, e4 := calls.Check(q.log, q.s, q.t, q.way)
	apart, e5 := calls.Apart(q.log, q.s, q.t)
	cut, e6 := calls.Cut(q.log, q.s, q.t)
	wide, e7 := calls.Wide(q.log, q.s, q.t)
	block, e8 := calls.Block(q.log, q.s, q.t)
	return []string{
		text(foremost, " ", e1), text(fewest, " ", e2), text(fastest, " ", e3), text(ok, " ", e4),
		text(apart, " ", e5), text(cut, " ", e6), text(wide, " ", e7), text(block, " ", e8),
	}
}

// ofNumber returns the results of the functions of a number of people as texts.
func ofNumber(q question) []string {
	gossip, e1 := calls.Gossip(q.n)
	needed, e2 := calls.Needed(q.n)
	return []string{text(gossip, " ", e1), text(needed, " ", e2)}
}

func answers(q question) []string {
	return slices.Concat(ofLog(q), ofPerson(q), ofPair(q), ofNumber(q))
}

// What is said of arguments that are not valid.
var (
	logRefused    = []string{"[] 2", "[] 2", "{0 []} 2"}
	personRefused = []string{"[] 2", "[] 2", "[] 2"}
	pairRefused   = []string{"[] 2", "[] 2", "[] 2", "false 2", "[] 2", "[] 2", "0 2", "0 2"}
)

// good is a question of which every argument is valid.
func good() question {
	return question{log: knot(), s: 0, t: 4, way: []int{0, 1, 2}, n: 4}
}

func TestGood(t *testing.T) {
	for _, line := range answers(good()) {
		if !strings.HasSuffix(line, " 0") {
			t.Error(line)
		}
	}
}

// TestNotValid: ErrArg comes first, whatever else is wrong, and every other result is zero.
func TestNotValid(t *testing.T) {
	for name, l := range badLogs() {
		for _, q := range []question{good(), {s: -1, t: -1, way: []int{-1}}, {t: 1}, {}, {s: 1}} {
			q.log = l
			sameText(t, name, ofLog(q), logRefused)
			sameText(t, name, ofPerson(q), personRefused)
			sameText(t, name, ofPair(q), pairRefused)
		}
	}
	list := append(knownLogs(), largeLogs()[:20]...)
	for _, l := range list {
		for _, p := range badPeople(l) {
			q := question{log: l, s: p, way: []int{0}}
			sameText(t, text(p, l), ofPerson(q), personRefused)
			sameText(t, text(p, l), ofPair(q), pairRefused)
			q.s, q.t = 0, p
			sameText(t, text(p, l), ofPair(q), pairRefused)
			q.s = l.N - 1
			sameText(t, text(p, l), ofPair(q), pairRefused)
			q.s = p
			sameText(t, text(p, l), ofPair(q), pairRefused)
		}
		for p := range l.N {
			q := question{log: l, s: p, t: p, way: []int{0}}
			sameText(t, text(p, l), ofPair(q), pairRefused)
		}
	}
}

// TestNone: ErrNone comes with zero values, and only where there is none.
func TestNone(t *testing.T) {
	q := question{log: log{N: 2}, s: 0, t: 1}
	sameText(t, "no calls", ofPair(q), []string{"[] 4", "[] 4", "[] 4", "false 0", "[] 0", "[] 0", "0 0", "0 0"})
	q = question{log: talks(2, [2]int{1, 0}), s: 0, t: 1}
	sameText(t, "a call", ofPair(q), []string{"[0] 0", "[0] 0", "[0] 0", "false 0", "[[0]] 0", "[0] 0", "1 0", "0 4"})
	q = question{log: talks(3, [2]int{1, 2}, [2]int{0, 1}), s: 0, t: 2}
	sameText(t, "too late", ofPair(q), []string{"[] 4", "[] 4", "[] 4", "false 0", "[] 0", "[] 0", "0 0", "0 0"})
}

// TestValid: what is at the edge of what is valid is taken.
func TestValid(t *testing.T) {
	for _, l := range manyLogs() {
		if !isValid(l) {
			t.Fatal("not valid:", l)
		}
	}
	for _, l := range knownLogs() {
		for p := range l.N {
			for _, line := range slices.Concat(ofLog(question{log: l}), ofPerson(question{log: l, s: p})) {
				if !strings.HasSuffix(line, " 0") {
					t.Error(l, p, line)
				}
			}
		}
		for _, p := range pairs(l) {
			_, e := calls.Apart(l, p[0], p[1])
			same(t, text(p, l), e, api.OK)
		}
	}
}

// TestNilIsEmpty: a nil slice and an empty one are the same.
func TestNilIsEmpty(t *testing.T) {
	for n := 2; n <= api.MaxPeople; n++ {
		none := question{log: log{N: n}, t: n - 1, n: n}
		empty := question{log: log{n, []call{}}, t: n - 1, way: []int{}, n: n}
		sameText(t, "nil", answers(none), answers(empty))
	}
}

// manyQuestions returns questions of which the most arguments are valid.
func manyQuestions() []question {
	d := dice(67)
	var list []question
	for i, l := range slices.Concat(knownLogs(), largeLogs()) {
		q := question{log: l, s: d.below(l.N), t: d.below(l.N), n: i % 9}
		q.way, _ = calls.Foremost(l, q.s, q.t)
		if i%5 == 0 {
			q.s, q.t = 0, l.N-1
		}
		list = append(list, q)
	}
	return append(list, good(), question{}, question{s: -1, t: -1, way: []int{-1}, n: -1})
}

// TestAgain: the same calls give the same results, and change no argument.
func TestAgain(t *testing.T) {
	for _, q := range manyQuestions() {
		kept := q.clone()
		first := answers(q)
		for range 3 {
			sameText(t, "again", answers(q), first)
		}
		sameText(t, "arguments", q, kept)
	}
}

// spoil changes all elements of a slice, and what lies behind its end.
func spoil[T any](l []T, value T) {
	for i := range l[:cap(l)] {
		l[:cap(l)][i] = value
	}
}

// TestResultsAreNew: changing a result, or what lies behind its end, changes neither an
// argument nor a later result, nor another slice of the same result.
func TestResultsAreNew(t *testing.T) {
	for _, q := range manyQuestions() {
		kept := q.clone()
		first := answers(q)
		news, _ := calls.News(q.log)
		idle, _ := calls.Idle(q.log)
		arrive, _ := calls.Arrive(q.log, q.s)
		leave, _ := calls.Leave(q.log, q.s)
		spread, _ := calls.Spread(q.log, q.s)
		foremost, _ := calls.Foremost(q.log, q.s, q.t)
		fewest, _ := calls.Fewest(q.log, q.s, q.t)
		fastest, _ := calls.Fastest(q.log, q.s, q.t)
		cut, _ := calls.Cut(q.log, q.s, q.t)
		for _, l := range [][]int{news, idle, arrive, leave, spread, foremost, fewest, fastest, cut} {
			spoil(l, -7)
		}
		back, _ := calls.Turn(q.log)
		gossip, _ := calls.Gossip(q.n)
		spoil(back.Calls, call{-7, -7, -7})
		spoil(gossip.Calls, call{-7, -7, -7})
		apart, _ := calls.Apart(q.log, q.s, q.t)
		for i, way := range apart {
			others := text(apart[:i], apart[i+1:])
			spoil(way, -7)
			sameText(t, "other ways", text(apart[:i], apart[i+1:]), others)
		}
		spoil(apart, nil)
		sameText(t, "arguments", q, kept)
		sameText(t, "results", answers(q), first)
	}
}
