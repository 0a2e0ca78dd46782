package like

import "iter"

// images goes in order through the slices of one of m nodes for each of n nodes, of which
// each may follow those before it. The slice is used again for the next one.
func images(n, m int, mayFollow func(given []int, u int) bool) iter.Seq[[]int] {
	return func(yield func(given []int) bool) {
		given := make([]int, 0, n)
		var extend func() bool
		extend = func() bool {
			if len(given) == n {
				return yield(given)
			}
			for u := range m {
				if !mayFollow(given, u) {
					continue
				}
				given = append(given, u)
				if !extend() {
					return false
				}
				given = given[:len(given)-1]
			}
			return true
		}
		extend()
	}
}

// number returns how many slices there are.
func number(list iter.Seq[[]int]) int {
	n := 0
	for range list {
		n++
	}
	return n
}

// maps goes through the maps from g to h.
func (p pair) maps() iter.Seq[[]int] {
	return images(len(p.g), len(p.h), func(given []int, u int) bool {
		for v, image := range given {
			if has(p.g[len(given)], v) && !has(p.h[u], image) {
				return false
			}
		}
		return true
	})
}

// renamings goes through the slices that give the nodes of g those of h as other names.
func (p pair) renamings() iter.Seq[[]int] {
	var names []int
	for v := range p.g {
		names = append(names, v)
	}
	return images(len(p.g), len(p.h), func(given []int, u int) bool {
		next := len(given)
		return len(p.g) == len(p.h) && p.agree(names[:next], given, next, u)
	})
}
