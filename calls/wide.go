package calls

// wide returns the greatest number of ways from s to t of which no two have a call, or a
// person but s and t, in common.
func (d diary) wide(s, t int) int {
	direct := 0
	// Two ways of which one is longer than a call have no call in common if they have no
	// person between s and t in common.
	between := make([]bool, 1<<d.N)
	for way := range d.ways(s, t) {
		if len(way) == 1 {
			direct++
			continue
		}
		between[d.peopleOf(way)&^(1<<s|1<<t)] = true
	}
	return direct + mostParts(between)
}

// peopleOf returns the set of the people of a way.
func (d diary) peopleOf(way []int) int {
	set := 0
	for _, i := range way {
		set |= d.Calls[i].people()
	}
	return set
}

// mostParts returns the greatest number of sets that are marked, none of them empty, of
// which no two have an element in common.
func mostParts(marks []bool) int {
	most := make([]int, len(marks))
	for set := range most {
		for part := range set + 1 {
			if marks[part] && part&^set == 0 {
				most[set] = max(most[set], most[set&^part]+1)
			}
		}
	}
	return most[len(most)-1]
}

// block returns, of the sets with the fewest people without whose calls there is no way
// from s to t, the least one, or false if s and t have a call with each other.
func (d diary) block(s, t int) (int, bool) {
	all := 1<<d.N - 1
	least := all &^ (1<<s | 1<<t)
	if d.without(least).isReached(s, t) {
		return 0, false
	}
	for set := range all {
		free := !has(set, s) && !has(set, t)
		if free && count(set) < count(least) && !d.without(set).isReached(s, t) {
			least = set
		}
	}
	return least, true
}

// isReached reports whether there is a way from s to t.
func (d diary) isReached(s, t int) bool { return d.arrivals(s)[t] != none }
