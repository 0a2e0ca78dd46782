package like_test

import (
	"math/big"
	"slices"
	"testing"

	"lampblack/api"
	"lampblack/like"
)

// shape reports whether x is n rows of n fractions as they have to be, by the definition.
func shape(x [][]frac, n int) bool {
	if len(x) != n {
		return false
	}
	for _, row := range x {
		if len(row) != n {
			return false
		}
		for _, f := range row {
			if f.Den < 1 || f.Den > 60 || f.Num < 0 || f.Num > f.Den {
				return false
			}
			for d := 2; d <= f.Den; d++ {
				if f.Num%d == 0 && f.Den%d == 0 {
					return false
				}
			}
		}
	}
	return true
}

// total is the exact sum of the fractions that are chosen of n.
func total(n int, chosen func(i int) bool, of func(i int) frac) *big.Rat {
	sum := new(big.Rat)
	for i := range n {
		if chosen(i) {
			sum.Add(sum, big.NewRat(int64(of(i).Num), int64(of(i).Den)))
		}
	}
	return sum
}

// isFraction goes by the definition.
func isFraction(g, h api.Graph, x [][]frac) bool {
	n := len(g)
	if len(h) != n || !shape(x, n) {
		return false
	}
	all := func(int) bool { return true }
	for i := range n {
		row := total(n, all, func(j int) frac { return x[i][j] })
		column := total(n, all, func(j int) frac { return x[j][i] })
		if row.Cmp(big.NewRat(1, 1)) != 0 || column.Cmp(big.NewRat(1, 1)) != 0 {
			return false
		}
		for j := range n {
			one := total(n, func(k int) bool { return near(g, i, k) }, func(k int) frac { return x[k][j] })
			other := total(n, func(m int) bool { return near(h, j, m) }, func(m int) frac { return x[i][m] })
			if one.Cmp(other) != 0 {
				return false
			}
		}
	}
	return true
}

// fraction is num/den in lowest terms.
func fraction(num, den int) frac {
	r := big.NewRat(int64(num), int64(den))
	return frac{Num: int(r.Num().Int64()), Den: int(r.Denom().Int64())}
}

// share is num/den as it is.
func share(num, den int) frac { return frac{Num: num, Den: den} }

// filled is n rows of n times the same fraction.
func filled(n int, f frac) [][]frac {
	var x [][]frac
	for range n {
		x = append(x, slices.Repeat([]frac{f}, n))
	}
	return x
}

// mixed is what some renamings give if each has a share of the whole: a number of parts of
// den.
func mixed(n, den int, renamings [][]int, parts []int) [][]frac {
	count := make([][]int, n)
	for i := range n {
		count[i] = make([]int, n)
		for k, names := range renamings {
			count[i][names[i]] += parts[k]
		}
	}
	x := filled(n, frac{Den: 1})
	for i := range n {
		for j := range n {
			x[i][j] = fraction(count[i][j], den)
		}
	}
	return x
}

func clone(x [][]frac) [][]frac {
	var c [][]frac
	for _, row := range x {
		c = append(c, slices.Clone(row))
	}
	return c
}

func judge(t *testing.T, g, h api.Graph, x [][]frac) bool {
	t.Helper()
	want := isFraction(g, h, x)
	if got, e := like.CheckFraction(g, h, x); got != want || e != api.OK {
		t.Fatal(g, h, x, got, e)
	}
	return want
}

func TestFractionExamples(t *testing.T) {
	six := frac{Num: 1, Den: 6}
	x, e := like.Fraction(cycle(6), beside(cycle(3), cycle(3)))
	sameText(t, "two triangles", []any{x, e}, []any{filled(6, six), api.OK})
	for _, x := range [][][]frac{filled(6, six), mixed(6, 2, [][]int{{0, 1, 2, 3, 4, 5}, {3, 4, 5, 0, 1, 2}}, []int{1, 1})} {
		judge(t, cycle(6), beside(cycle(3), cycle(3)), x)
	}
	ok, e := like.CheckFraction(cycle(6), beside(cycle(3), cycle(3)), filled(6, six))
	sameText(t, "all 1/6", []any{ok, e}, []any{true, api.OK})
	ok, _ = like.CheckFraction(path(2), path(2), [][]frac{{share(1, 60), share(59, 60)}, {share(59, 60), share(1, 60)}})
	same(t, "sixtieth", ok, true)
	ok, _ = like.CheckFraction(apart(1), apart(1), [][]frac{{share(1, 1)}})
	same(t, "one node", ok, true)
	for _, p := range [][2]api.Graph{{apart(1), apart(2)}, {path(3), cycle(3)}, {complete(6), complete(5)}, {cycle(3), cycle(6)}} {
		x, e := like.Fraction(p[0], p[1])
		sameText(t, text(p), []any{x, e}, []any{[][]frac{}, api.ErrNone})
	}
}

// TestFractionMany is P9.10.
func TestFractionMany(t *testing.T) {
	for _, p := range manyPairs() {
		x, e := like.Fraction(p[0], p[1])
		alike, _ := like.Alike(p[0], p[1])
		switch {
		case alike && (e != api.OK || !judge(t, p[0], p[1], x)):
			t.Fatal(p, x, e)
		case !alike && (e != api.ErrNone || len(x) > 0):
			t.Fatal(p, x, e)
		}
		judge(t, p[1], p[0], x)
	}
}

// TestCheckFractionMixed: renamings that share the whole are a fraction matrix just if it is
// one by the definition, which they always are if the graphs are the same by them.
func TestCheckFractionMixed(t *testing.T) {
	d := dice(23)
	for _, g := range manyGraphs() {
		n := len(g)
		h := renamed(g, shuffled(n, &d))
		var names [][]int
		for _, l := range orders(n) {
			if isRenaming(g, h, l) {
				names = append(names, l)
			}
		}
		for _, den := range []int{1, 2, 60, 59, 7} {
			chosen := append(some(names, 2, &d), shuffled(n, &d))
			part := d.below(den + 1)
			if x := mixed(n, den, chosen[:2], []int{part, den - part}); !judge(t, g, h, x) {
				t.Fatal(g, h, x)
			}
			judge(t, g, h, mixed(n, den, chosen[1:], []int{part, den - part}))
		}
	}
}

// TestCheckFractionChanged: what differs at one place, in one row or in one column from a
// fraction matrix.
func TestCheckFractionChanged(t *testing.T) {
	values := []frac{share(0, 1), share(1, 1), share(1, 2), share(1, 6), share(2, 3), share(1, 60), share(59, 60), share(1, 61), share(0, 2), share(2, 4), share(2, 2), share(0, 0), share(1, 0), share(-1, 2), share(1, -2), share(-1, -1), share(3, 2), share(2, 1), share(1<<62, 1<<62), share(-1<<63, 1), share(1, -1<<63), share(-1<<63, -1<<63)}
	d := dice(3)
	for _, g := range knownGraphs() {
		good, _ := like.Fraction(g, g)
		for i := range g {
			for _, f := range values {
				x := clone(good)
				x[i][d.below(len(g))] = f
				judge(t, g, g, x)
			}
			for j := range i {
				x := clone(good)
				x[i], x[j] = x[j], x[i]
				judge(t, g, g, x)
				x[i], x[j] = slices.Clone(x[j]), slices.Clone(x[j])
				judge(t, g, g, x)
			}
			x := clone(good)
			x[i] = append(x[i], share(0, 1))
			judge(t, g, g, x)
			x[i] = x[i][:len(g)-1]
			judge(t, g, g, x)
			x[i] = nil
			judge(t, g, g, x)
		}
		for _, x := range [][][]frac{nil, {}, good[1:], append(clone(good), good[0]), append(clone(good), nil), make([][]frac, len(g)), make([][]frac, 100000), filled(len(g), share(1, 1)), filled(len(g), share(0, 1)), filled(len(g), frac{})} {
			judge(t, g, g, x)
		}
	}
}

// TestCheckFractionWords: lowest terms and the bounds of Den and Num are asked for also
// where the sums are right.
func TestCheckFractionWords(t *testing.T) {
	for _, f := range []frac{share(1, 2), share(2, 4), share(30, 60), share(1, 1), share(0, 1), share(0, 2), share(2, 2), share(0, 60), share(60, 60), share(1, 60), share(1, 61), share(1, 62), share(30, 61), share(31, 61), share(-1, 2), share(3, 2), share(0, 0), share(1, 1<<40), share(1<<32, 1<<33)} {
		rest := frac{Num: f.Den - f.Num, Den: f.Den}
		judge(t, apart(2), apart(2), [][]frac{{f, rest}, {rest, f}})
	}
	// a negative element among others
	for _, f := range []frac{share(-1, 1), share(-1, 2), share(-2, 1)} {
		rest := share(f.Den, f.Den)
		judge(t, apart(3), apart(3), [][]frac{{f, rest, share(-f.Num, f.Den)}, {rest, share(-f.Num, f.Den), f}, {share(-f.Num, f.Den), f, rest}})
	}
	// rows alone, or columns alone, of the sum 1
	judge(t, apart(2), apart(2), [][]frac{{share(1, 1), share(0, 1)}, {share(1, 1), share(0, 1)}})
	judge(t, apart(2), apart(2), [][]frac{{share(1, 1), share(1, 1)}, {share(0, 1), share(0, 1)}})
	judge(t, path(3), path(3), filled(3, share(1, 3)))
	judge(t, cycle(3), path(3), filled(3, share(1, 3)))
	judge(t, apart(2), apart(3), filled(2, share(1, 2)))
	judge(t, apart(3), apart(2), filled(2, share(1, 2)))
}

// TestCheckFractionSums: sums of fractions whose denominators have little in common.
func TestCheckFractionSums(t *testing.T) {
	d := dice(31)
	dens := []int{59, 58, 57, 55, 53, 49, 47, 60, 43, 41}
	for range 3000 {
		n := 4 + d.below(3)
		x := filled(n, share(0, 1))
		for i := range n {
			for j := range n {
				den := dens[d.below(len(dens))]
				x[i][j] = fraction(d.below(den+1)/(1+d.below(n)), den)
			}
		}
		judge(t, complete(n), cycle(n), x)
	}
	latin := filled(6, share(0, 1))
	row := []frac{share(1, 2), share(1, 3), share(1, 7), share(1, 42), share(0, 1), share(0, 1)} // the sum is 1
	for i := range latin {
		for j, f := range row {
			latin[i][(i+j)%6] = f
		}
	}
	judge(t, apart(6), apart(6), latin)
	judge(t, complete(6), complete(6), latin)
	judge(t, cycle(6), cycle(6), latin)
	judge(t, path(6), path(6), latin)
}
