package puzzle

import "slices"

const maxPlaces = 3

// all returns the set of the first n places, variables or Cons.
func all(n int) int { return 1<<n - 1 }

// isRel reports whether a Rel is valid.
func isRel(r Rel) bool {
	if r.N < 1 || r.N > maxPlaces || len(r.Rows) == 0 {
		return false
	}
	last := -1
	for _, row := range r.Rows {
		if row <= last || row > all(r.N) {
			return false
		}
		last = row
	}
	return true
}

// operation makes one row of some rows, place by place.
type operation struct {
	takes int // how many rows
	of    func(rows ...int) int
}

// operations returns the operations by their numbers.
func operations() [6]operation {
	return [6]operation{
		{0, func(...int) int { return 0 }},
		{0, func(...int) int { return -1 }}, // 1 at every place that a Rel may have
		{2, func(r ...int) int { return r[0] & r[1] }},
		{2, func(r ...int) int { return r[0] | r[1] }},
		{3, func(r ...int) int { return r[0]&r[1] | r[0]&r[2] | r[1]&r[2] }},
		{3, func(r ...int) int { return r[0] ^ r[1] ^ r[2] }},
	}
}

// newOperation returns the operation of a number that is asked for a Rel, or false if the
// Rel or the number is not valid.
func newOperation(r Rel, op int) (operation, bool) {
	list := operations()
	if !isRel(r) || op < 0 || op >= len(list) {
		return operation{}, false
	}
	return list[op], true
}

// row returns the row of n places that the operation makes of some rows.
func (o operation) row(n int, rows []int) int { return o.of(rows...) & all(n) }

// broken returns the first rows of a Rel of which the operation makes what is no row of it,
// or false if there are none. They begin with those that are taken.
func (o operation) broken(r Rel, taken ...int) ([]int, bool) {
	if len(taken) == o.takes {
		return taken, !slices.Contains(r.Rows, o.row(r.N, taken))
	}
	for _, next := range r.Rows {
		if rows, ok := o.broken(r, append(taken, next)...); ok {
			return rows, true
		}
	}
	return nil, false
}

// keeps reports whether the operation keeps a Rel.
func (o operation) keeps(r Rel) bool {
	_, ok := o.broken(r)
	return !ok
}

// hull returns the least Rel that has the rows of a Rel, and that the operation keeps. A
// row that is missing is one of every such Rel.
func (o operation) hull(r Rel) Rel {
	h := Rel{N: r.N, Rows: slices.Clone(r.Rows)}
	for {
		rows, ok := o.broken(h)
		if !ok {
			return h
		}
		h.Rows = append(h.Rows, o.row(h.N, rows))
		slices.Sort(h.Rows)
	}
}
