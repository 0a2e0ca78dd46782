package puzzle

import "slices"

const maxLines = 40

// sum returns what a Line says: the set of the variables that occur in it an odd number of
// times, and its side as one variable more. It returns false for what is no Line.
func (t task) sum(l Line) (int, bool) {
	if l.Cons < 0 || l.Cons >= len(t.Cons) {
		return 0, false
	}
	c := t.Cons[l.Cons]
	r := t.Rels[c.Rel]
	if l.Mask < 1 || l.Mask > all(r.N) {
		return 0, false
	}
	side := count(r.Rows[0]&l.Mask) % 2
	for _, row := range r.Rows {
		if count(row&l.Mask)%2 != side {
			return 0, false
		}
	}
	sum := side << t.Vars
	for place, v := range c.Vars {
		sum ^= bit(l.Mask, place) << v
	}
	return sum, true
}

// odd returns the sum of an odd proof: no variable is left, and the sides are odd.
func (t task) odd() int { return 1 << t.Vars }

// isOddProof reports whether l is an odd proof.
func (t task) isOddProof(l []Line) bool {
	if len(l) > maxLines {
		return false
	}
	total := 0
	for _, line := range l {
		sum, ok := t.sum(line)
		if !ok {
			return false
		}
		total ^= sum
	}
	return total == t.odd()
}

// lines returns the Lines of the task, in order.
func (t task) lines() []Line {
	var list []Line
	for i := range t.Cons {
		for mask := range 1 << maxPlaces {
			l := Line{i, mask}
			if _, ok := t.sum(l); ok {
				list = append(list, l)
			}
		}
	}
	return list
}

// oddProof returns an odd proof, or false if there is none. It finds for each sum the
// fewest Lines that have it: these are no more than there are variables and one, since no
// sum of some of them is nothing.
func (t task) oddProof() ([]Line, bool) {
	lines := t.lines()
	shortest := make([][]Line, 2*t.odd())
	found := []int{0}
	for i := 0; i < len(found); i++ {
		for _, l := range lines {
			sum, _ := t.sum(l)
			sum ^= found[i]
			if sum != 0 && len(shortest[sum]) == 0 {
				shortest[sum] = append(slices.Clip(shortest[found[i]]), l)
				found = append(found, sum)
			}
		}
	}
	proof := shortest[t.odd()]
	return proof, len(proof) > 0
}
