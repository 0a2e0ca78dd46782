package puzzle_test

import (
	"slices"
	"testing"

	"lampblack/api"
	"lampblack/puzzle"
)

func TestKeepsExamples(t *testing.T) {
	table := []struct {
		r    rel
		want []bool
	}{
		{newRel(2, 1, 2), []bool{false, false, false, false, true, true}},
		{newRel(3, 1, 2, 4), []bool{false, false, false, false, false, false}},
		{newRel(1, 0), []bool{true, false, true, true, true, true}},
		{newRel(1, 1), []bool{false, true, true, true, true, true}},
		{newRel(3, 0, 1, 2, 3, 4, 5, 6, 7), []bool{true, true, true, true, true, true}},
		{newRel(2, 0, 2, 3), []bool{true, true, true, true, true, false}},
		{newRel(3, 0, 3, 5, 6), []bool{true, false, false, false, false, true}},
		{newRel(3, 1, 2, 3, 4, 5, 6), []bool{false, false, false, false, false, false}},
		{newRel(3, 0, 1, 2, 3, 4, 5, 6), []bool{true, false, true, false, false, false}},
		{newRel(3, 1, 2, 3, 4, 5, 6, 7), []bool{false, true, false, true, false, false}},
	}
	for _, row := range table {
		for op, want := range row.want {
			ok, e := puzzle.Keeps(row.r, op)
			same(t, text(row.r, op), ok, want)
			same(t, text(row.r, op), e, api.OK)
		}
	}
}

func TestBrokenExamples(t *testing.T) {
	table := []struct {
		r    rel
		op   int
		want []int
	}{
		{newRel(2, 1, 2), 2, []int{1, 2}},
		{newRel(2, 1, 2), 3, []int{1, 2}},
		{newRel(2, 1, 2), 0, nil},
		{newRel(2, 1, 2), 1, nil},
		{newRel(3, 1, 2, 4), 4, []int{1, 2, 4}},
		{newRel(3, 1, 2, 4), 5, []int{1, 2, 4}},
		{newRel(3, 0, 1, 3, 5, 6, 7), 2, []int{3, 6}},
		{newRel(3, 0, 1, 2, 4, 5, 6), 3, []int{1, 2}},
		{newRel(3, 0, 1, 2, 4, 7), 4, []int{1, 2, 7}},
		{newRel(2, 0, 1, 2), 5, []int{0, 1, 2}},
	}
	for _, row := range table {
		rows, e := puzzle.Broken(row.r, row.op)
		sameText(t, text(row.r, row.op), rows, row.want)
		same(t, text(row.r, row.op), e, api.OK)
	}
}

func TestHullExamples(t *testing.T) {
	table := []struct {
		r    rel
		op   int
		want rel
	}{
		{newRel(2, 1, 2), 2, newRel(2, 0, 1, 2)},
		{newRel(2, 1, 2), 3, newRel(2, 1, 2, 3)},
		{newRel(2, 1, 2), 0, newRel(2, 0, 1, 2)},
		{newRel(2, 1, 2), 1, newRel(2, 1, 2, 3)},
		{newRel(2, 1, 2), 4, newRel(2, 1, 2)},
		{newRel(3, 1, 2, 4), 4, newRel(3, 0, 1, 2, 4)},
		{newRel(3, 1, 2, 4), 5, newRel(3, 1, 2, 4, 7)},
		{newRel(3, 1, 2, 4), 3, newRel(3, 1, 2, 3, 4, 5, 6, 7)},
		{newRel(3, 3, 5, 6), 2, newRel(3, 0, 1, 2, 3, 4, 5, 6)},
		{newRel(3, 0, 1, 2, 4), 5, newRel(3, 0, 1, 2, 3, 4, 5, 6, 7)},
		{newRel(1, 1), 0, newRel(1, 0, 1)},
		{newRel(3, 0), 1, newRel(3, 0, 7)},
	}
	for _, row := range table {
		h, e := puzzle.Hull(row.r, row.op)
		sameText(t, text(row.r, row.op), h, row.want)
		same(t, text(row.r, row.op), e, api.OK)
	}
}

// TestEveryRel is P8.1 for all there is.
func TestEveryRel(t *testing.T) {
	for _, r := range everyRel() {
		for op := range takes {
			want, broken := breaks(r, op)
			wantErr := api.ErrNone
			if broken {
				wantErr = api.OK
			}
			rows, e := puzzle.Broken(r, op)
			if !slices.Equal(rows, want) || e != wantErr {
				t.Fatal(r, op, rows, e)
			}
			if ok, e := puzzle.Keeps(r, op); ok == broken || e != api.OK {
				t.Fatal(r, op, ok, e)
			}
		}
	}
}

// hasRows reports whether a Rel has all rows of another.
func hasRows(r, other rel) bool {
	return r.N == other.N && !slices.ContainsFunc(other.Rows, func(row int) bool { return !slices.Contains(r.Rows, row) })
}

// TestEveryHull is P8.2 and P8.14 for all there is: a Hull has the rows, is kept, and every
// Rel that has the rows and is kept has those of the Hull.
func TestEveryHull(t *testing.T) {
	for op := range takes {
		kept := keptBy(op)
		for _, r := range everyRel() {
			h, e := puzzle.Hull(r, op)
			if e != api.OK || !hasRows(h, r) || !slices.ContainsFunc(kept, func(k rel) bool { return text(k) == text(h) }) {
				t.Fatal(r, op, h, e)
			}
			for _, k := range kept {
				if hasRows(k, r) && !hasRows(k, h) {
					t.Fatal(r, op, h, k)
				}
			}
			again, e := puzzle.Hull(h, op)
			if text(again) != text(h) || e != api.OK {
				t.Fatal(h, op, again, e)
			}
			if rows, e := puzzle.Broken(h, op); len(rows) != 0 || e != api.ErrNone {
				t.Fatal(h, op, rows, e)
			}
		}
	}
}

// TestBadRel: a Rel or an operation that is not valid is refused.
func TestBadRel(t *testing.T) {
	for name, r := range badRels() {
		for _, op := range []int{0, 1, 2, 3, 4, 5, 6, -1} {
			refused(t, name, r, op)
		}
	}
	for _, op := range []int{-1, 6, 7, 64, -6, 1 << 40, -1 << 63, 1<<63 - 1} {
		refused(t, "operation", newRel(2, 1, 2), op)
		refused(t, "operation", newRel(3, 0, 1, 2, 3, 4, 5, 6, 7), op)
	}
}

func refused(t *testing.T, what string, r rel, op int) {
	t.Helper()
	ok, e1 := puzzle.Keeps(r, op)
	rows, e2 := puzzle.Broken(r, op)
	h, e3 := puzzle.Hull(r, op)
	sameText(t, text(what, op), text(ok, e1, " ", rows, e2, " ", h, e3), "false 2 [] 2 {0 []} 2")
}

// TestRelEdges: what is at the edge of what is valid is taken.
func TestRelEdges(t *testing.T) {
	for n := 1; n <= 3; n++ {
		for _, row := range []int{0, 1<<n - 1} {
			for op := range takes {
				_, e := puzzle.Keeps(newRel(n, row), op)
				same(t, text(n, row, op), e, api.OK)
			}
		}
	}
}
