package rounds

// step is a Span of a cycle, which may be gone backward.
type step struct {
	Span
	back bool
}

// ends returns the events where a step begins and ends.
func (s step) ends() (int, int) {
	if s.back {
		return s.To, s.From
	}
	return s.From, s.To
}

// bounds returns the least and the greatest time that a step takes.
func (s step) bounds() (int, int) {
	if s.back {
		return -s.High, -s.Low
	}
	return s.Low, s.High
}

// steps returns the steps of a slice, or false if it is no cycle of different Spans.
func (p plan) steps(cycle []int) ([]step, bool) {
	if len(cycle) == 0 {
		return nil, false
	}
	var steps []step
	used := 0
	for _, number := range cycle {
		if number == 0 || number < -len(p.Spans) || number > len(p.Spans) {
			return nil, false
		}
		span := max(number, -number) - 1
		if used>>span&1 == 1 {
			return nil, false
		}
		used |= 1 << span
		steps = append(steps, step{Span: p.Spans[span], back: number < 0})
	}
	return steps, areClosed(steps)
}

// areClosed reports whether each step begins where the one before ends, and the first one
// where the last one ends.
func areClosed(steps []step) bool {
	_, at := steps[len(steps)-1].ends()
	for _, s := range steps {
		from, to := s.ends()
		if from != at {
			return false
		}
		at = to
	}
	return true
}

// turns returns the least and the greatest number of periods that steps may take. The
// least one is above the greatest one if there is none.
func (p plan) turns(steps []step) (int, int) {
	low, high := 0, 0
	for _, s := range steps {
		least, greatest := s.bounds()
		low += least
		high += greatest
	}
	return -roundDown(-low, p.Period), roundDown(high, p.Period)
}

// roundDown returns the greatest number of which n times is at most a, which may be
// negative.
func roundDown(a, n int) int { return (a - remainder(a, n)) / n }
