package like

import (
	"slices"

	"lampblack/api"
)

// refine returns the colours in the end, and how many rounds raised their number.
func (t town) refine() ([]int, int) {
	colours, number := make([]int, len(t)), 1
	for rounds := 0; ; rounds++ {
		finer, more := t.finer(colours)
		if more == number {
			return colours, rounds
		}
		colours, number = finer, more
	}
}

// finer returns the colours of the next round, and how many different ones there are.
func (t town) finer(colours []int) ([]int, int) {
	marks := make([][]int, len(t))
	for v := range t {
		marks[v] = t.mark(v, colours)
	}
	different := slices.Clone(marks)
	slices.SortFunc(different, slices.Compare[[]int])
	different = slices.CompactFunc(different, slices.Equal[[]int])
	finer := make([]int, len(t))
	for v, m := range marks {
		finer[v], _ = slices.BinarySearchFunc(different, m, slices.Compare[[]int])
	}
	return finer, len(different)
}

// mark returns the colour of a node and, behind it, those of its neighbours, sorted. Marks
// are in the same order as the pairs of the first and the rest.
func (t town) mark(v int, colours []int) []int {
	m := []int{colours[v]}
	for u := range nodes(t[v]) {
		m = append(m, colours[u])
	}
	slices.Sort(m[1:])
	return m
}

// colours returns the colours of the nodes of both towns in the end, if they are refined
// together: as one town that has the nodes of h behind those of g.
func (p pair) colours() (ofG, ofH []int) {
	both := slices.Clone(p.g)
	for _, near := range p.h {
		both = append(both, near<<len(p.g))
	}
	colours, _ := both.refine()
	return colours[:len(p.g)], colours[len(p.g):]
}

// areAlike reports whether of each colour there are equally many nodes in both towns.
func (p pair) areAlike() bool {
	ofG, ofH := p.colours()
	slices.Sort(ofG)
	slices.Sort(ofH)
	return slices.Equal(ofG, ofH)
}

// shares returns a fraction matrix of towns that are alike: each node of g is shared equally
// by the nodes of h that have its colour.
func (p pair) shares() [][]api.Frac {
	ofG, ofH := p.colours()
	x := make([][]api.Frac, len(ofG))
	for i, colour := range ofG {
		var sharing []int
		for j, c := range ofH {
			x[i] = append(x[i], api.Frac{Num: 0, Den: 1})
			if c == colour {
				sharing = append(sharing, j)
			}
		}
		for _, j := range sharing {
			x[i][j] = api.Frac{Num: 1, Den: len(sharing)}
		}
	}
	return x
}
