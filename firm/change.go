package firm

import (
	"slices"
	"strings"

	"lampblack/api"
	"lampblack/calls"
)

// change makes a change of a state, or returns an error and leaves the state as it is.
type change func(s *state, words []string) api.Errno

// changes returns the rules of the changes.
func changes() []rule[change] {
	return []rule[change]{
		{"house", "h", (*state).house},
		{"street", "hh", (*state).street},
		{"close", "hh", (*state).close},
		{"flue", "hn", (*state).flue},
		{"permit", "khh", (*state).permit},
		{"talk", "hh", (*state).talk},
		{"day", "", (*state).day},
	}
}

// change makes the change of a line and returns the reply, or returns its error and leaves
// the state as it is.
func (s *state) change(line string) (string, api.Errno) {
	r, words, ok := find(line, changes())
	if !ok {
		return "", api.ErrForm
	}
	return r.first, r.act(s, words)
}

// house adds a house without streets.
func (s *state) house(words []string) api.Errno {
	switch {
	case slices.Contains(s.houses, words[0]):
		return api.ErrState
	case len(s.houses) == maxHouses:
		return api.ErrFull
	}
	s.houses = append(s.houses, strings.Clone(words[0])) // the text of the line is not kept
	s.streets = append(s.streets, 0)
	return api.OK
}

// street makes a street between two houses.
func (s *state) street(words []string) api.Errno {
	h, k, ok := s.pair(words[0], words[1])
	switch {
	case !ok:
		return api.ErrNone
	case h == k || s.areNeighbours(h, k):
		return api.ErrState
	}
	s.turn(h, k)
	return api.OK
}

// close takes a street away.
func (s *state) close(words []string) api.Errno {
	h, k, ok := s.pair(words[0], words[1])
	if !ok || !s.areNeighbours(h, k) {
		return api.ErrNone
	}
	s.turn(h, k)
	return api.OK
}

// flue adds a flue of a house.
func (s *state) flue(words []string) api.Errno {
	h, days := slices.Index(s.houses, words[0]), number(words[1])
	product := days
	for _, d := range s.days() {
		product *= d
	}
	switch {
	case h < 0:
		return api.ErrNone
	case slices.ContainsFunc(s.flues, func(f flue) bool { return f.house == h }):
		return api.ErrState
	case days < 1 || days > maxDays:
		return api.ErrArg
	case len(s.flues) == maxFlues || product > maxProduct:
		return api.ErrFull
	}
	s.flues = append(s.flues, flue{h, days})
	return api.OK
}

// permit adds a permit of a kind.
func (s *state) permit(words []string) api.Errno {
	h, k, ok := s.pair(words[1], words[2])
	switch {
	case !ok:
		return api.ErrNone
	case len(s.permits) == maxPermits:
		return api.ErrFull
	}
	s.permits = append(s.permits, permit{slices.Index(kinds(), words[0]), h, k})
	return api.OK
}

// talk adds a talk of today.
func (s *state) talk(words []string) api.Errno {
	h, k, ok := s.pair(words[0], words[1])
	switch {
	case !ok:
		return api.ErrNone
	case h == k || s.hasTalked(h) || s.hasTalked(k):
		return api.ErrState
	case len(s.talks) == maxTalks:
		return api.ErrFull
	}
	s.talks = append(s.talks, calls.Call{A: h, B: k, Time: s.today})
	return api.OK
}

// day lets a day go by.
func (s *state) day([]string) api.Errno {
	if s.today == lastDay {
		return api.ErrFull
	}
	s.today++
	return api.OK
}
