package rounds

const (
	mostChimneys = 4
	mostGrowth   = 5
	longestSweep = 20000 // days
)

// growths tell for each chimney by how much its soot grows in a day.
type growths []int

// newGrowths returns the growths of a slice, or false if they are not valid.
func newGrowths(l []int) (growths, bool) {
	if len(l) < 1 || len(l) > mostChimneys {
		return nil, false
	}
	for _, growth := range l {
		if growth < 1 || growth > mostGrowth {
			return nil, false
		}
	}
	return l, true
}

// best returns the least bound that holds, and a machine that keeps it. Some bound holds,
// at most twice the sum.
func (g growths) best() (int, *machine) {
	for bound := g.sum(); ; bound++ {
		if m := newMachine(g.tasks(bound)); m.goesOn() {
			return bound, m
		}
	}
}

// sum returns the sum of the growths. No lesser bound holds, since on every day the sum is
// added, and no more than the bound is swept.
func (g growths) sum() int {
	sum := 0
	for _, growth := range g {
		sum += growth
	}
	return sum
}

// tasks returns within how many days the chimneys have to be swept, so that no soot is
// above a bound, which is no less than any growth.
func (g growths) tasks(bound int) tasks {
	within := make([]int, len(g))
	for chimney, growth := range g {
		within[chimney] = bound / growth
	}
	return tasks{within: within}
}

// areBounded reports whether l, which may be any slice, is a round with which no soot is
// ever above a bound.
func (g growths) areBounded(l []int, bound int) bool {
	if !isRound(l, len(g), longestSweep) {
		return false
	}
	for chimney, growth := range g {
		if wait, ok := longestWait(l, chimney); !ok || wait*growth > bound {
			return false
		}
	}
	return true
}
