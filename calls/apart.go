package calls

import "slices"

// chains are chains of calls from s to t, no two with a call in common. A chain is a rising
// slice of calls of which the first one has s, each one has a person in common with the one
// before, and the last one has t. Every way is a chain, and the shortest chain among the
// calls of a chain is a way, since it comes to nobody twice. So there are as many ways apart
// as chains; but which call may come behind another one depends on these two alone.
type chains struct {
	diary
	s, t int
	// before is the call before each one in its chain, or none. A call that needs no other
	// one is before itself: it is in no chain, or has both s and t.
	before []int
}

// newChains returns as many chains from s to t as possible.
func (d diary) newChains(s, t int) chains {
	w := chains{d, s, t, slices.Repeat([]int{none}, len(d.Calls))}
	for i, c := range d.all() {
		if !has(c.people(), s) && !has(c.people(), t) {
			w.before[i] = i
		}
	}
	for i, c := range d.all() {
		if has(c.people(), s) {
			tried := 0
			w.extend(i, &tried)
		}
	}
	return w
}

// extend finds a call to come behind a call. What was before that one finds another one. It
// reports whether this could be done; if not, nothing has changed. It tries no call that
// has been tried.
func (w chains) extend(i int, tried *int) bool {
	for j := range w.all() {
		if has(*tried, j) || !w.mayFollow(i, j) {
			continue
		}
		*tried |= 1 << j
		if w.before[j] == none || w.extend(w.before[j], tried) {
			w.before[j] = i
			return true
		}
	}
	return false
}

// mayFollow reports whether call j may come behind call i, which is itself if it is a chain
// alone or in none.
func (w chains) mayFollow(i, j int) bool {
	people := w.Calls[j].people()
	if i == j {
		return has(people, w.s) == has(people, w.t)
	}
	return i < j && people&w.Calls[i].people() != 0 && !has(people, w.s)
}

// ends returns the last calls of the chains.
func (w chains) ends() []int {
	var list []int
	for i, c := range w.all() {
		if has(c.people(), w.t) && w.before[i] != none {
			list = append(list, i)
		}
	}
	return list
}

// upTo returns the set of the calls of the chain with a last call.
func (w chains) upTo(end int) int {
	set, i := 1<<end, end
	for !has(w.Calls[i].people(), w.s) {
		i = w.before[i]
		set |= 1 << i
	}
	return set
}

// apart returns as many ways from s to t as possible of which no two have a call in common.
func (d diary) apart(s, t int) [][]int {
	var list [][]int
	w := d.newChains(s, t)
	for _, end := range w.ends() {
		for way := range d.only(w.upTo(end)).ways(s, t) {
			list = append(list, slices.Clone(way))
			break
		}
	}
	return list
}

// cut returns, of the slices with the fewest calls without which there is no way from s to
// t, the first one. A call is in such a slice if without it there are fewer ways apart.
func (d diary) cut(s, t int) []int {
	var cut []int
	most := len(d.newChains(s, t).ends())
	for i := range d.Calls {
		less := d.only(^(1 << i))
		if number := len(less.newChains(s, t).ends()); number < most {
			cut = append(cut, i)
			d, most = less, number
		}
	}
	return cut
}
