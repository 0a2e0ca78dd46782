package like

import "lampblack/api"

const maxDen = 60

// one is the sum of each row and of each column of a fraction matrix.
func one() api.Frac { return api.Frac{Num: 1, Den: 1} }

// divisor returns the greatest common divisor of two numbers from 0 on.
func divisor(a, b int) int {
	for b != 0 {
		a, b = b, a%b
	}
	return a
}

// isElement reports whether a fraction may be an element of a fraction matrix.
func isElement(f api.Frac) bool {
	return f.Den >= 1 && f.Den <= maxDen && f.Num >= 0 && f.Num <= f.Den && divisor(f.Num, f.Den) == 1
}

// sum returns the sum of fractions in lowest terms. Of at most MaxLike elements no number
// grows beyond an int.
func sum(list ...api.Frac) api.Frac {
	total := api.Frac{Num: 0, Den: 1}
	for _, f := range list {
		num, den := total.Num*f.Den+f.Num*total.Den, total.Den*f.Den
		d := divisor(num, den)
		total = api.Frac{Num: num / d, Den: den / d}
	}
	return total
}

// matrix is rows of fractions.
type matrix [][]api.Frac

// isSquare reports whether a matrix is n rows of n elements.
func (x matrix) isSquare(n int) bool {
	if len(x) != n {
		return false
	}
	for _, row := range x {
		if len(row) != n {
			return false
		}
		for _, f := range row {
			if !isElement(f) {
				return false
			}
		}
	}
	return true
}

// inRow returns the sum of the elements of row i in a set of columns.
func (x matrix) inRow(i, columns int) api.Frac {
	var list []api.Frac
	for j := range nodes(columns) {
		list = append(list, x[i][j])
	}
	return sum(list...)
}

// inColumn returns the sum of the elements of column j in a set of rows.
func (x matrix) inColumn(j, rows int) api.Frac {
	var list []api.Frac
	for i := range nodes(rows) {
		list = append(list, x[i][j])
	}
	return sum(list...)
}

// isFraction reports whether x is a fraction matrix of two towns.
func (p pair) isFraction(x matrix) bool {
	if len(p.g) != len(p.h) || !x.isSquare(len(p.g)) {
		return false
	}
	for i := range x {
		if x.inRow(i, p.g.all()) != one() || x.inColumn(i, p.g.all()) != one() {
			return false
		}
		for j := range x {
			if x.inColumn(j, p.g[i]) != x.inRow(i, p.h[j]) {
				return false
			}
		}
	}
	return true
}
