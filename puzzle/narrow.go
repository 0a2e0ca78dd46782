package puzzle

// domains are two sets of variables: those that may be 0, and those that may be 1.
type domains [2]int

// without returns the domains without the values that the rows of a rule do not have
// within the domains.
func (d domains) without(u rule) domains {
	left := domains{d[0] &^ u.vars, d[1] &^ u.vars}
	for _, ones := range u.ones {
		noughts := u.vars &^ ones
		if noughts&^d[0] == 0 && ones&^d[1] == 0 {
			left[0] |= noughts
			left[1] |= ones
		}
	}
	return left
}

// narrow returns the greatest consistent domains.
func (t task) narrow() domains {
	d := domains{all(t.Vars), all(t.Vars)}
	for {
		before := d
		for _, u := range t.rules {
			d = d.without(u)
		}
		if d == before {
			return d
		}
	}
}

// list returns the domain of each of n variables, or false if one is empty.
func (d domains) list(n int) ([]int, bool) {
	list := make([]int, n)
	for v := range list {
		list[v] = bit(d[0], v) | bit(d[1], v)<<1
		if list[v] == 0 {
			return nil, false
		}
	}
	return list, true
}
