package firm

import (
	"slices"
	"strings"

	"lampblack/api"
	"lampblack/calls"
	"lampblack/chase"
	"lampblack/ears"
	"lampblack/like"
	"lampblack/minor"
	"lampblack/puzzle"
	"lampblack/rounds"
	"lampblack/sweep"
	"lampblack/width"
)

const maxColours = 6

// question returns the words of a reply behind the first one, or an error.
type question func(s *state, words []string) ([]string, api.Errno)

// questions returns the rules of the questions.
func questions() []rule[question] {
	return []rule[question]{
		{"town", "", (*state).town},
		{"cat", "", (*state).cat},
		{"width", "", (*state).width},
		{"guards", "", (*state).guards},
		{"spare", "", (*state).spare},
		{"outer", "", (*state).outer},
		{"colours", "n", (*state).colours},
		{"round", "", (*state).round},
		{"halves", "", (*state).halves},
		{"news", "h", (*state).news},
		{"twins", "hh", (*state).twins},
	}
}

// reply returns the reply to a question, which begins with the first word of the question.
func (s *state) reply(asked string) (string, api.Errno) {
	r, words, ok := find(asked, questions())
	if !ok {
		return "", api.ErrForm
	}
	said, e := r.act(s, words)
	if e != api.OK {
		return "", e
	}
	return joined(append([]string{r.first}, said...)...), api.OK
}

// byName returns the houses of a set, in the order of their names.
func (s *state) byName(set int) []int {
	var list []int
	for h := range s.houses {
		if set>>h&1 == 1 {
			list = append(list, h)
		}
	}
	slices.SortFunc(list, func(h, k int) int { return strings.Compare(s.houses[h], s.houses[k]) })
	return list
}

// all returns the set of all houses.
func (s *state) all() int { return 1<<len(s.houses) - 1 }

// names returns the names of the houses of a set, rising.
func (s *state) names(set int) []string {
	var list []string
	for _, h := range s.byName(set) {
		list = append(list, s.houses[h])
	}
	return list
}

// yesOrNo returns the word for what is so, or is not.
func yesOrNo(isSo bool) []string {
	if isSo {
		return []string{"yes"}
	}
	return []string{"no"}
}

// town tells the neighbours of all houses.
func (s *state) town([]string) ([]string, api.Errno) {
	var said []string
	for _, h := range s.byName(s.all()) {
		said = append(said, s.houses[h]+":"+strings.Join(s.names(s.streets[h]), ","))
	}
	return said, api.OK
}

// cat tells how many sweeps catch the cat, and in how many rounds. Two always do in a town
// that is connected.
func (s *state) cat([]string) ([]string, api.Errno) {
	for _, sweeps := range []int{1, 2} {
		if n, e := chase.Rounds(s.streets, sweeps); e == api.OK {
			return texts(sweeps, n), api.OK
		}
	}
	return nil, api.ErrState
}

// width tells how far the town is from a tree.
func (s *state) width([]string) ([]string, api.Errno) {
	if s.isEmpty() {
		return nil, api.ErrNone
	}
	w, e := width.Width(s.streets)
	return texts(w), e
}

// guards tells how many guards clear the town of smoke.
func (s *state) guards([]string) ([]string, api.Errno) {
	if s.isEmpty() {
		return nil, api.ErrNone
	}
	n, e := sweep.Least(s.streets)
	return texts(n), e
}

// spare tells the streets that the town cannot spare. A town without a house has none.
func (s *state) spare([]string) ([]string, api.Errno) {
	if s.isEmpty() {
		return nil, api.OK
	}
	bridges, e := ears.Bridges(s.streets)
	var said []string
	for _, b := range bridges {
		said = append(said, strings.Join(s.names(1<<b[0]|1<<b[1]), "-"))
	}
	slices.Sort(said)
	return said, e
}

// outer tells whether the town has an outer order.
func (s *state) outer([]string) ([]string, api.Errno) {
	if s.isEmpty() {
		return nil, api.ErrNone
	}
	_, e := minor.Outer(s.streets)
	return yesOrNo(e == api.OK), api.OK
}

// colours tells in how many ways the houses can have so many colours.
func (s *state) colours(words []string) ([]string, api.Errno) {
	colours := number(words[0])
	switch {
	case colours > maxColours:
		return nil, api.ErrArg
	case s.isEmpty():
		return nil, api.ErrNone
	}
	tree, _ := width.Decompose(s.streets)
	n, e := width.Count(s.streets, tree, colours)
	return texts(n), e
}

// round tells whether some round keeps the flues, or else on how many days they can be kept.
func (s *state) round([]string) ([]string, api.Errno) {
	if len(s.flues) == 0 {
		return nil, api.ErrNone
	}
	if _, e := rounds.Round(s.days()); e == api.OK {
		return yesOrNo(true), api.OK
	}
	days, e := rounds.Last(s.days())
	return texts(len(days)), e
}

// halves tells at which half of the day each house is swept.
func (s *state) halves([]string) ([]string, api.Errno) {
	if s.isEmpty() {
		return nil, api.ErrNone
	}
	later, e := puzzle.Solve(s.puzzle())
	if e != api.OK {
		return nil, api.ErrState
	}
	var said []string
	for _, h := range s.byName(s.all()) {
		half := "am"
		if later>>h&1 == 1 {
			half = "pm"
		}
		said = append(said, s.houses[h]+":"+half)
	}
	return said, api.OK
}

// puzzle returns the puzzle of the permits: a house is 0 in the morning, and a permit names
// the Rel of its kind.
func (s *state) puzzle() puzzle.Puzzle {
	p := puzzle.Puzzle{
		Vars: len(s.houses),
		Rels: []puzzle.Rel{{N: 2, Rows: []int{1, 2}}, {N: 2, Rows: []int{0, 3}}, {N: 2, Rows: []int{0, 1, 2}}},
	}
	for _, q := range s.permits {
		p.Cons = append(p.Cons, puzzle.Cons{Rel: q.kind, Vars: []int{q.a, q.b}})
	}
	return p
}

// news tells who has the news of a house in the end.
func (s *state) news(words []string) ([]string, api.Errno) {
	h := slices.Index(s.houses, words[0])
	if h < 0 {
		return nil, api.ErrNone
	}
	sets, e := calls.Spread(calls.Log{N: len(s.houses), Calls: s.talks}, h)
	inTheEnd := 0
	for _, set := range sets {
		inTheEnd = set
	}
	return s.names(inTheEnd), e
}

// twins tells whether two houses have the same colour when the town is refined.
func (s *state) twins(words []string) ([]string, api.Errno) {
	h, k, ok := s.pair(words[0], words[1])
	switch {
	case !ok:
		return nil, api.ErrNone
	case len(s.houses) > api.MaxLike:
		return nil, api.ErrSize
	}
	colours, _, e := like.Refine(s.streets)
	return yesOrNo(e == api.OK && colours[h] == colours[k]), e
}
