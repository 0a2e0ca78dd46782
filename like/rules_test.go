package like_test

import (
	"slices"
	"strings"
	"testing"

	"lampblack/api"
	"lampblack/like"
)

// question has an argument for each function.
type question struct {
	g, h api.Graph
	x    [][]frac
	k    int
	a, b []int
	s    string
	f    form
}

// copied is a formula that shares no memory with the given one.
func copied(f form) form {
	c := f
	c.Kids = nil
	for _, kid := range f.Kids {
		c.Kids = append(c.Kids, copied(kid))
	}
	return c
}

func (q question) clone() question {
	c := q
	c.g, c.h, c.x, c.f = slices.Clone(q.g), slices.Clone(q.h), clone(q.x), copied(q.f)
	c.a, c.b = slices.Clone(q.a), slices.Clone(q.b)
	return c
}

// ofGraph returns the results of the functions of a graph as texts.
func ofGraph(q question) []string {
	colours, rounds, e1 := like.Refine(q.g)
	turns, e2 := like.Turns(q.g)
	ok, e3 := like.Holds(q.g, q.f)
	return []string{text(colours, " ", rounds, " ", e1), text(turns, " ", e2), text(ok, " ", e3)}
}

// ofPair returns the results of the functions of two graphs as texts.
func ofPair(q question) []string {
	alike, e1 := like.Alike(q.g, q.h)
	x, e2 := like.Fraction(q.g, q.h)
	ok, e3 := like.CheckFraction(q.g, q.h, q.x)
	maps, e4 := like.Maps(q.g, q.h)
	names, e5 := like.Same(q.g, q.h)
	win, e6 := like.Win(q.g, q.h, q.k)
	f, e7 := like.Tell(q.g, q.h, q.k)
	answer, e8 := like.Answer(q.g, q.h, q.k, q.a, q.b)
	return []string{
		text(alike, " ", e1), text(x, " ", e2), text(ok, " ", e3), text(maps, " ", e4), text(names, " ", e5), text(win, " ", e6), text(f, " ", e7), text(answer, " ", e8),
	}
}

// ofFormula returns the results of the functions of no graph as texts.
func ofFormula(q question) []string {
	f, e1 := like.Parse(q.s)
	s, e2 := like.Print(q.f)
	n, e3 := like.Depth(q.f)
	return []string{text(f, " ", e1), text(s, " ", e2), text(n, " ", e3)}
}

func results(q question) []string {
	return slices.Concat(ofGraph(q), ofPair(q), ofFormula(q))
}

// What is said of arguments that are not valid.
var (
	graphRefused   = []string{"[] 0 2", "0 2", "false 2"}
	pairRefused    = []string{"false 2", "[] 2", "false 2", "0 2", "[] 2", "false 2", "{ 0 0 []} 2", "false 2"}
	formulaRefused = []string{"{ 0 0 []} 3", " 2", "0 2"}
)

// good is a question of which every argument is valid, and where there is what is asked for.
func good() question {
	half := fraction(1, 2)
	return question{
		g: path(2), h: path(2), x: [][]frac{{half, half}, {half, half}}, k: 2, a: []int{0, 1}, b: []int{1, 0}, s: "Ed !d~d", f: exists(3, not(atom(3, "~", 3))),
	}
}

// other is one whose graphs are told apart.
func other() question {
	q := good()
	q.h, q.k = cycle(3), 2
	q.g, q.f = path(3), exists(0, atom(0, "~", 0))
	return q
}

func TestGood(t *testing.T) {
	want := []string{
		"[0 0] 0 0", "2 0", "true 0",
		"true 0", "[[{1 2} {1 2}] [{1 2} {1 2}]] 0", "true 0", "2 0", "[0 1] 0", "true 0", "{ 0 0 []} 4", "true 0",
		"{E 3 0 [{! 0 0 [{~ 3 3 []}]}]} 0", "Ed !d~d 0", "1 0",
	}
	sameText(t, "good", results(good()), want)
	told, e := like.Tell(path(3), cycle(3), 2)
	want = []string{
		"[0 1 0] 1 0", "2 0", "false 0",
		"false 0", "[] 4", "false 0", "12 0", "[] 4", "false 0", text(told, " ", e), "false 0",
		"{E 3 0 [{! 0 0 [{~ 3 3 []}]}]} 0", "Ea a~a 0", "1 0",
	}
	sameText(t, "other", results(other()), want)
}

// TestNotValid: ErrArg comes first, whatever else is wrong, and every other result is zero.
func TestNotValid(t *testing.T) {
	for name, g := range badGraphs() {
		for _, q := range []question{good(), other(), {}, {h: apart(1)}, {h: g, k: -1, a: []int{-1}, b: []int{-1, -1}, x: make([][]frac, 3)}} {
			q.g = g
			sameText(t, name, ofGraph(q), graphRefused)
			sameText(t, name, ofPair(q), pairRefused)
			if q.h != nil {
				q.g, q.h = q.h, q.g
				sameText(t, name, ofPair(q), pairRefused)
			}
		}
	}
	sameText(t, "formula", ofFormula(question{}), formulaRefused)
}

// TestValid: what is at the edge of what is valid is taken.
func TestValid(t *testing.T) {
	for n := 1; n <= api.MaxLike; n++ {
		for m := 1; m <= api.MaxLike; m++ {
			for _, g := range []api.Graph{apart(n), path(n), complete(n)} {
				for _, h := range []api.Graph{apart(m), star(m), complete(m)} {
					q := question{g: g, h: h, k: 3, a: []int{n - 1, 0, n - 1}, b: []int{m - 1, m - 1, 0}, f: good().f}
					for i, line := range append(ofGraph(q), ofPair(q)...) {
						same(t, text(g, h, i), strings.HasSuffix(line, " 2"), false)
					}
				}
			}
		}
	}
}

// TestNilIsEmpty: a nil slice and an empty one are the same.
func TestNilIsEmpty(t *testing.T) {
	for _, g := range []api.Graph{nil, apart(1), cycle(5)} {
		none := question{g: g, h: g, k: 1, f: exists(1, form{Op: "=", A: 1, B: 1})}
		empty := question{g: g, h: g, k: 1, x: [][]frac{}, a: []int{}, b: []int{}, f: exists(1, form{Op: "=", A: 1, B: 1, Kids: []form{}})}
		sameText(t, "nil", results(none), results(empty))
		none.b = []int{}
		sameText(t, "nil and empty", results(none), results(empty))
	}
	sameText(t, "no graph", results(question{}), results(question{g: api.Graph{}, h: api.Graph{}, x: [][]frac{}, a: []int{}, b: []int{}, f: form{Kids: []form{}}}))
}

// manyQuestions returns questions of which the most arguments are valid.
func manyQuestions() []question {
	d := dice(67)
	list := []question{good(), other(), {}, {k: -1}, {k: 4}}
	pairs, forms := manyPairs(), someForms(400)
	for i := range 400 {
		p := some(pairs, 1, &d)[0]
		q := question{g: p[0], h: p[1], k: i % 4, a: someNodes(p[0], i%3, &d), b: someNodes(p[1], i%3, &d), f: forms[i]}
		q.x, _ = like.Fraction(q.g, q.h)
		q.s = printed(some(forms, 1, &d)[0])
		list = append(list, q)
	}
	return list
}

// TestAgain: the same calls give the same results, and change no argument.
func TestAgain(t *testing.T) {
	for _, q := range manyQuestions() {
		kept := q.clone()
		first := results(q)
		for range 2 {
			sameText(t, "again", results(q), first)
		}
		sameText(t, "arguments", q, kept)
	}
}

// spoil changes all elements of a slice, and what lies behind its end.
func spoil[T any](l []T, value T) {
	for i := range l[:cap(l)] {
		l[:cap(l)][i] = value
	}
}

// spoilForm changes a formula from its front on, and tells whether that changes what was not
// yet changed.
func spoilForm(t *testing.T, f form) {
	t.Helper()
	for i := range f.Kids {
		rest := text(f.Kids[i+1:])
		spoilForm(t, f.Kids[i])
		f.Kids[i] = form{Op: "?"}
		sameText(t, "the other Kids", text(f.Kids[i+1:]), rest)
	}
	spoil(f.Kids, form{Op: "?"})
}

// TestResultsAreNew: changing a result, or what lies behind its end, changes neither an
// argument nor a later result.
func TestResultsAreNew(t *testing.T) {
	for _, q := range manyQuestions() {
		kept := q.clone()
		first := results(q)
		colours, _, _ := like.Refine(q.g)
		names, _ := like.Same(q.g, q.h)
		for _, l := range [][]int{colours, names} {
			spoil(l, -7)
		}
		x, _ := like.Fraction(q.g, q.h)
		for i, row := range x {
			before := text(x[i+1:])
			spoil(row, frac{Num: -7})
			sameText(t, "the other rows", text(x[i+1:]), before)
		}
		told, _ := like.Tell(q.g, q.h, q.k)
		spoilForm(t, told)
		read, _ := like.Parse(q.s)
		spoilForm(t, read)
		sameText(t, "arguments", q, kept)
		sameText(t, "results", results(q), first)
	}
}

// TestRoomBehindArguments: what lies behind the end of an argument is not written.
func TestRoomBehindArguments(t *testing.T) {
	for _, given := range []question{good(), other()} {
		q := given.clone()
		g, h := append(slices.Clone(q.g), 99, 99, 99), append(slices.Clone(q.h), 99, 99, 99)
		a, b := append(slices.Clone(q.a), 99, 99, 99), append(slices.Clone(q.b), 99, 99, 99)
		x := append(clone(q.x), nil, nil)
		row := append(slices.Clone(q.x[0]), frac{Num: 99}, frac{Num: 99})
		kids := append(slices.Clone(q.f.Kids), form{Op: "?"}, form{Op: "?"})
		q.g, q.h, q.a, q.b, q.x, q.f.Kids = g[:len(q.g)], h[:len(q.h)], a[:2], b[:2], x[:2], kids[:1]
		q.x[0] = row[:2]
		sameText(t, "results", results(q), results(given))
		for _, l := range [][]int{g[len(q.g):], h[len(q.h):], a[2:], b[2:]} {
			sameText(t, "behind", l, "[99 99 99]")
		}
		sameText(t, "behind", []any{x[2:], row[2:], kids[1:]}, "[[[] []] [{99 0} {99 0}] [{? 0 0 []} {? 0 0 []}]]")
	}
}
