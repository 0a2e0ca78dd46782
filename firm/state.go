package firm

import (
	"slices"
	"strconv"

	"lampblack/api"
	"lampblack/calls"
)

const (
	firstDay   = 1
	lastDay    = 30
	maxHouses  = 7
	maxFlues   = 5
	maxDays    = 12
	maxProduct = 4000
	maxPermits = 12
	maxTalks   = 24
)

// kinds returns the kinds of permits.
func kinds() []string { return []string{"unlike", "like", "early"} }

// flue is a flue of a house, which has to be swept at least once in so many days.
type flue struct{ house, days int }

// permit is a permit of a kind, by its index, for two houses.
type permit struct{ kind, a, b int }

// state is what the books say. Houses are numbers: their indices in houses and in streets.
type state struct {
	today   int
	houses  []string
	streets api.Graph
	flues   []flue
	permits []permit
	talks   []calls.Call
}

// newState returns the empty state.
func newState() *state { return &state{today: firstDay} }

// clone returns a state that shares no memory with s.
func (s *state) clone() *state {
	return &state{
		today:   s.today,
		houses:  slices.Clone(s.houses),
		streets: slices.Clone(s.streets),
		flues:   slices.Clone(s.flues),
		permits: slices.Clone(s.permits),
		talks:   slices.Clone(s.talks),
	}
}

// isEmpty reports whether there is no house.
func (s *state) isEmpty() bool { return len(s.houses) == 0 }

// pair returns the numbers of two houses, or false if one of them is not there.
func (s *state) pair(first, second string) (h, k int, ok bool) {
	h, k = slices.Index(s.houses, first), slices.Index(s.houses, second)
	return h, k, h >= 0 && k >= 0
}

// areNeighbours reports whether there is a street between two houses.
func (s *state) areNeighbours(h, k int) bool { return s.streets[h]>>k&1 == 1 }

// turn makes a street between two houses, or takes it away.
func (s *state) turn(h, k int) {
	s.streets[h] ^= 1 << k
	s.streets[k] ^= 1 << h
}

// days returns the days of the flues, in the order in which they came.
func (s *state) days() []int {
	var list []int
	for _, f := range s.flues {
		list = append(list, f.days)
	}
	return list
}

// hasTalked reports whether a house has talked today.
func (s *state) hasTalked(h int) bool {
	return slices.ContainsFunc(s.talks, func(c calls.Call) bool {
		return c.Time == s.today && (c.A == h || c.B == h)
	})
}

// dump returns the fewest changes that make the state.
func (s *state) dump() []string {
	var l []string
	for _, name := range s.houses {
		l = append(l, joined("house", name))
	}
	for h := range s.houses {
		for k := range s.houses {
			if h < k && s.areNeighbours(h, k) {
				l = append(l, joined("street", s.houses[h], s.houses[k]))
			}
		}
	}
	for _, f := range s.flues {
		l = append(l, joined("flue", s.houses[f.house], strconv.Itoa(f.days)))
	}
	for _, p := range s.permits {
		l = append(l, joined("permit", kinds()[p.kind], s.houses[p.a], s.houses[p.b]))
	}
	return append(l, s.dumpDays()...)
}

// dumpDays returns the talks, and the days that go by before and after them.
func (s *state) dumpDays() []string {
	var l []string
	day := firstDay
	pass := func(until int) {
		for ; day < until; day++ {
			l = append(l, "day")
		}
	}
	for _, c := range s.talks {
		pass(c.Time)
		l = append(l, joined("talk", s.houses[c.A], s.houses[c.B]))
	}
	pass(s.today)
	return l
}
