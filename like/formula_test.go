package like_test

import (
	"regexp"
	"slices"
	"strings"
	"testing"

	"lampblack/api"
	"lampblack/like"
)

func atom(a int, op string, b int) form { return form{Op: op, A: a, B: b} }

func not(f form) form { return form{Op: "!", Kids: []form{f}} }

func and(f, g form) form { return form{Op: "&", Kids: []form{f, g}} }

func exists(a int, f form) form { return form{Op: "E", A: a, Kids: []form{f}} }

// chain is a formula within so many of what is given.
func chain(f form, n int, wrap func(i int, f form) form) form {
	for i := range n {
		f = wrap(i, f)
	}
	return f
}

// heap has n atoms and n - 1 formulas of two Kids, and is no deeper than it must be.
func heap(n int) form {
	if n == 1 {
		return atom(0, "=", 0)
	}
	return and(heap(n/2), heap(n-n/2))
}

// size and height count nodes, and how deep a formula is.
func size(f form) int {
	n := 1
	for _, kid := range f.Kids {
		n += size(kid)
	}
	return n
}

func height(f form) int {
	n := 0
	for _, kid := range f.Kids {
		n = max(n, height(kid))
	}
	return n + 1
}

// isPart goes by the definition, but for the size.
func isPart(f form) bool {
	kids, named := map[string]int{"=": 0, "~": 0, "!": 1, "&": 2, "E": 1}[f.Op]
	if !named || len(f.Kids) != kids || f.A < 0 || f.A > 3 || f.B < 0 || f.B > 3 {
		return false
	}
	if f.A != 0 && kids > 0 && f.Op != "E" || f.B != 0 && kids > 0 {
		return false
	}
	return !slices.ContainsFunc(f.Kids, func(kid form) bool { return !isPart(kid) })
}

func isValid(f form) bool { return size(f) <= 2000 && height(f) <= 40 && isPart(f) }

func isClosed(f form, within int) bool {
	if len(f.Kids) == 0 {
		return within>>f.A&1 == 1 && within>>f.B&1 == 1
	}
	if f.Op == "E" {
		within |= 1 << f.A
	}
	return !slices.ContainsFunc(f.Kids, func(kid form) bool { return !isClosed(kid, within) })
}

func nesting(f form) int {
	n := 0
	for _, kid := range f.Kids {
		n = max(n, nesting(kid))
	}
	if f.Op == "E" {
		n++
	}
	return n
}

// isTrue goes by the definition.
func isTrue(g api.Graph, f form, at [4]int) bool {
	switch f.Op {
	case "=":
		return at[f.A] == at[f.B]
	case "~":
		return near(g, at[f.A], at[f.B])
	case "!":
		return !isTrue(g, f.Kids[0], at)
	case "&":
		return isTrue(g, f.Kids[0], at) && isTrue(g, f.Kids[1], at)
	}
	for v := range g {
		at[f.A] = v
		if isTrue(g, f.Kids[0], at) {
			return true
		}
	}
	return false
}

func printed(f form) string {
	letter := func(a int) string { return string(rune('a' + a)) }
	switch f.Op {
	case "!":
		return "!" + printed(f.Kids[0])
	case "&":
		return "(" + printed(f.Kids[0]) + "&" + printed(f.Kids[1]) + ")"
	case "E":
		return "E" + letter(f.A) + " " + printed(f.Kids[0])
	}
	return letter(f.A) + f.Op + letter(f.B)
}

// someForm returns a formula of at most so many E within each other, in which the variables
// are some of a list; more says how large it may be.
func someForm(depth, more int, vars []int, d *dice) form {
	choice := d.below(7)
	switch {
	case len(vars) == 0 || depth > 0 && more > 0 && choice < 3:
		v := d.below(4)
		return exists(v, someForm(depth-1, more-1, append(slices.Clip(vars), v), d))
	case more > 0 && choice < 5:
		return and(someForm(depth, more-1, vars, d), someForm(depth, more-1, vars, d))
	case more > 0 && choice < 6:
		return not(someForm(depth, more-1, vars, d))
	}
	two := some(vars, 2, d)
	return either(atom(two[0], []string{"=", "~"}[d.below(2)], two[1]), d)
}

func either(f form, d *dice) form {
	if d.below(2) == 0 {
		return f
	}
	return not(f)
}

// someClosed returns a closed formula of at most so many E within each other, at least 1.
func someClosed(depth int, d *dice) form { return either(someForm(depth, 7, nil, d), d) }

// someForms returns formulas of all kinds.
func someForms(count int) []form {
	d := dice(53)
	list := []form{atom(0, "=", 0), atom(3, "~", 1), not(atom(2, "=", 3)), exists(3, atom(3, "~", 2))}
	for i := range count {
		vars := [][]int{nil, {0, 1, 2, 3}, {3}, {1, 2}}[i%4]
		list = append(list, someForm(1+i%5, 1+i%9, vars, &d))
	}
	return list
}

// badForms returns what is no valid formula.
func badForms() map[string]form {
	good := atom(0, "=", 0)
	itself, twice := form{Op: "!", Kids: make([]form, 1)}, form{Op: "&", Kids: make([]form, 2)}
	itself.Kids[0] = itself
	twice.Kids[0], twice.Kids[1] = twice, twice
	someoneElse := form{Op: "E", Kids: make([]form, 1)}
	someoneElse.Kids[0] = and(good, someoneElse)
	bad := map[string]form{
		"nothing": {}, "no Op": {Kids: []form{good}}, "other Op": {Op: "|", Kids: []form{good, good}}, "two Ops": {Op: "==", A: 1}, "small e": {Op: "e", Kids: []form{good}}, "Op of two": {Op: "E ", Kids: []form{good}},
		"A beyond": atom(4, "=", 0), "B beyond": atom(0, "=", 4), "A negative": atom(-1, "~", 0), "B negative": atom(0, "~", -1), "A far": atom(1<<63-1, "=", 0), "B far": atom(0, "=", -1<<63), "A at 64": atom(64, "~", 0),
		"atom with a Kid": {Op: "=", Kids: []form{good}}, "atom with two": {Op: "~", A: 1, Kids: []form{good, good}}, "atom with an empty one": {Op: "=", Kids: []form{{}}},
		"not of nothing": {Op: "!"}, "not of two": {Op: "!", Kids: []form{good, good}}, "not with A": {Op: "!", A: 1, Kids: []form{good}}, "not with B": {Op: "!", B: 1, Kids: []form{good}}, "not with -A": {Op: "!", A: -1, Kids: []form{good}},
		"and of one": {Op: "&", Kids: []form{good}}, "and of three": {Op: "&", Kids: []form{good, good, good}}, "and of none": {Op: "&", Kids: []form{}}, "and with A": {Op: "&", A: 3, Kids: []form{good, good}}, "and with B": {Op: "&", B: -2, Kids: []form{good, good}},
		"E of none": {Op: "E"}, "E of two": {Op: "E", Kids: []form{good, good}}, "E beyond": exists(4, good), "E negative": exists(-1, good), "E far": exists(1<<62, good), "E with B": {Op: "E", B: 1, Kids: []form{good}},
		"E of nothing": exists(0, form{}), "not of no formula": not(atom(0, "=", 4)), "second no formula": and(good, exists(0, not(form{}))), "first no formula": and(form{}, good),
		"41 deep": chain(good, 40, func(_ int, f form) form { return not(f) }), "41 deep to the right": chain(good, 40, func(_ int, f form) form { return and(good, f) }), "41 deep E": chain(good, 40, func(i int, f form) form { return exists(i%4, f) }),
		"very deep": chain(good, 100000, func(_ int, f form) form { return not(f) }), "2001 nodes": heap(1001), "2002 nodes": not(heap(1001)), "very large": heap(100000),
		"within itself": itself, "twice within itself": twice, "within its Kid": someoneElse, "very many Kids": {Op: "&", Kids: make([]form, 1000000)}, "often the same": chain(good, 39, func(_ int, f form) form { return and(f, f) }),
	}
	return bad
}

func TestFormNotValid(t *testing.T) {
	for name, f := range badForms() {
		s, e := like.Print(f)
		sameText(t, name, []any{s, e}, []any{"", api.ErrArg})
		n, e := like.Depth(f)
		sameText(t, name, []any{n, e}, []any{0, api.ErrArg})
		for _, bad := range []form{f, not(f), exists(0, f), and(exists(0, atom(0, "=", 0)), f)} {
			ok, e := like.Holds(path(3), bad)
			sameText(t, name, []any{ok, e}, []any{false, api.ErrArg})
		}
	}
}

// TestFormLargest: what is at the edge of what is valid is taken, and read again.
func TestFormLargest(t *testing.T) {
	good := atom(0, "=", 0)
	table := []form{
		heap(1000), not(heap(1000)), exists(0, heap(1000)), chain(good, 39, func(_ int, f form) form { return not(f) }), chain(good, 39, func(i int, f form) form { return exists(i%4, f) }),
		chain(good, 39, func(_ int, f form) form { return and(good, f) }), chain(good, 39, func(_ int, f form) form { return and(f, good) }),
		{Op: "=", A: 3, B: 3, Kids: []form{}}, atom(3, "~", 3),
	}
	for _, f := range table {
		same(t, "valid", isValid(f), true)
		s, e := like.Print(f)
		sameText(t, s, e, api.OK)
		same(t, s, s, printed(f))
		back, e := like.Parse(s)
		sameText(t, s, []any{back, e}, []any{f, api.OK})
		n, e := like.Depth(f)
		sameText(t, s, []any{n, e}, []any{nesting(f), api.OK})
	}
}

func TestParseExamples(t *testing.T) {
	table := map[string]form{
		"a=a": atom(0, "=", 0), "a~b": atom(0, "~", 1), "d=c": atom(3, "=", 2), "b~d": atom(1, "~", 3), "!a=b": not(atom(0, "=", 1)), "!!a~a": not(not(atom(0, "~", 0))),
		"(a=b&c~d)": and(atom(0, "=", 1), atom(2, "~", 3)), "Ea a~a": exists(0, atom(0, "~", 0)), "Ed b=c": exists(3, atom(1, "=", 2)), "!Ea a=a": not(exists(0, atom(0, "=", 0))), "Ea !a=a": exists(0, not(atom(0, "=", 0))),
		"Ea Eb (!a=b&!a~b)": exists(0, exists(1, and(not(atom(0, "=", 1)), not(atom(0, "~", 1))))), "((a=a&b=b)&c=c)": and(and(atom(0, "=", 0), atom(1, "=", 1)), atom(2, "=", 2)),
		"(a=a&(b=b&c=c))": and(atom(0, "=", 0), and(atom(1, "=", 1), atom(2, "=", 2))), "(Ea a=b&b=a)": and(exists(0, atom(0, "=", 1)), atom(1, "=", 0)), "Ea (a=b&b=a)": exists(0, and(atom(0, "=", 1), atom(1, "=", 0))),
	}
	for s, f := range table {
		got, e := like.Parse(s)
		sameText(t, s, []any{got, e}, []any{f, api.OK})
		back, e := like.Print(f)
		sameText(t, s, []any{back, e}, []any{s, api.OK})
	}
	n, e := like.Depth(table["Ea Eb (!a=b&!a~b)"])
	sameText(t, "depth", []any{n, e}, []any{2, api.OK})
	n, e = like.Depth(table["a~b"])
	sameText(t, "depth", []any{n, e}, []any{0, api.OK})
	n, e = like.Depth(table["(Ea a=b&b=a)"])
	sameText(t, "depth", []any{n, e}, []any{1, api.OK})
	n, e = like.Depth(and(exists(1, exists(1, atom(1, "=", 1))), not(exists(0, and(atom(0, "=", 0), exists(1, exists(2, atom(0, "=", 2))))))))
	sameText(t, "depth", []any{n, e}, []any{3, api.OK})
}

func TestParseNotValid(t *testing.T) {
	list := []string{
		"", " ", "a", "a=", "=a", "a=e", "e=a", "a==b", "a=b ", " a=b", "a =b", "a= b", "a=b\n", "A=b", "a=B", "a#b", "a&b", "a!b", "aEb", "ab", "a=bc", "a=b=c", "a~b~c", "!", "! a=b", "!(a=b)", "(a=b)", "()", "(&)", "(a=b&)", "(&a=b)",
		"(a=b&c=d", "a=b&c=d", "(a=b&c=d))", "((a=b&c=d)", "(a=b &c=d)", "(a=b& c=d)", "(a=b&c=d&a=a)", "(a=b|c=d)", "(a=bc=d)", "[a=b&c=d]", "E", "Ea", "Ea ", "Eaa=a", "Ea  a=a", "Ea\ta=a", "E a a=a", "Ee a=a", "E! a=a", "ea a=a", "EA a=a", "Ea a=a Eb", "Ea a=a b=b",
		"\x00", "a=\x00", "\xff=a", "a=b\xff", "а=b", "é", "Ea\u00a0a=a", "`=a", "a=`", "\u0161=a", "a=\u0161",
		strings.Repeat("!", 40) + "a=a", strings.Repeat("Ea ", 40) + "a=a", strings.Repeat("!", 20000), strings.Repeat("(", 20000), strings.Repeat("Ea ", 6000) + "a=a", strings.Repeat("!", 19997) + "a=a", printed(heap(1001)), printed(not(heap(1001))), printed(heap(2000)), strings.Repeat("a", 20000),
	}
	for _, s := range list {
		f, e := like.Parse(s)
		sameText(t, s, []any{f, e}, []any{form{}, api.ErrForm})
	}
	for _, s := range []string{strings.Repeat("!", 20001), strings.Repeat("!", 19998) + "a=a", strings.Repeat(" ", 20001), strings.Repeat("\xff", 1000000), "Ea a=a" + strings.Repeat(" ", 20000)} {
		f, e := like.Parse(s)
		sameText(t, s[:10], []any{f, e}, []any{form{}, api.ErrSize})
	}
}

var (
	atomic   = regexp.MustCompile(`[a-d][=~][a-d]`)
	compound = regexp.MustCompile(`!F|\(F&F\)|E[a-d] F`)
)

// reduced tells by itself whether a string is a formula, of any size: what is one becomes F.
func reduced(s string) bool {
	if strings.Contains(s, "F") {
		return false
	}
	s = atomic.ReplaceAllString(s, "F")
	for compound.MatchString(s) {
		s = compound.ReplaceAllString(s, "F")
	}
	return s == "F"
}

func parsed(t *testing.T, s string) {
	t.Helper()
	f, e := like.Parse(s)
	if !reduced(s) {
		if e != api.ErrForm || text(f) != text(form{}) {
			t.Fatal(s, f, e)
		}
	} else if back, e1 := like.Print(f); back != s || e1 != api.OK || e != api.OK || !isValid(f) || printed(f) != s {
		t.Fatal(s, f, e, back, e1)
	}
}

// TestParseShort reads all short strings of the signs that matter.
func TestParseShort(t *testing.T) {
	last := []string{""}
	for range 5 {
		var longer []string
		for _, s := range last {
			for _, c := range "ad=~!E (&)" {
				longer = append(longer, s+string(c))
			}
		}
		last = longer
		for _, s := range last {
			if f, e := like.Parse(s); e == api.OK || strings.ContainsAny(s, "=~") {
				parsed(t, s)
			} else if e != api.ErrForm || f.Op != "" {
				t.Fatal(s, f, e)
			}
		}
	}
}

// TestParseChanged reads strings that differ from one of a formula at one place.
func TestParseChanged(t *testing.T) {
	d := dice(59)
	for _, f := range someForms(300) {
		s := printed(f)
		parsed(t, s)
		for range 20 {
			i, sign := d.below(len(s)), string("abd=~!E (&)e"[d.below(12)])
			for _, changed := range []string{s[:i] + s[i+1:], s[:i] + sign + s[i:], s[:i] + sign + s[i+1:], s[:i], s[i:], s + sign} {
				parsed(t, changed)
			}
		}
	}
}

// TestPrintMany is the end of P9.13.
func TestPrintMany(t *testing.T) {
	for _, f := range someForms(3000) {
		s, e := like.Print(f)
		if s != printed(f) || e != api.OK {
			t.Fatal(f, s, e)
		}
		if back, e := like.Parse(s); text(back) != text(f) || e != api.OK {
			t.Fatal(s, back, e)
		}
		if n, e := like.Depth(f); n != nesting(f) || e != api.OK {
			t.Fatal(s, n, e)
		}
	}
}

func TestHoldsExamples(t *testing.T) {
	table := []struct {
		g    api.Graph
		s    string
		want bool
	}{
		{apart(1), "Ea a=a", true}, {apart(1), "Ea a~a", false}, {complete(6), "Ea a~a", false}, {apart(1), "Ea Eb !a=b", false}, {apart(2), "Ea Eb !a=b", true}, {apart(6), "Ea Eb a~b", false}, {path(2), "Ea Eb a~b", true},
		{path(3), "Ea Eb (!a=b&!a~b)", true}, {cycle(3), "Ea Eb (!a=b&!a~b)", false}, {cycle(3), "Ea Eb Ec (a~b&(b~c&c~a))", true}, {cycle(6), "Ea Eb Ec (a~b&(b~c&c~a))", false},
		{path(3), "Ea !Eb (!b=a&!a~b)", true}, {path(4), "Ea !Eb (!b=a&!a~b)", false}, {path(3), "!Ea !Eb a~b", true}, {beside(path(2), apart(1)), "!Ea !Eb a~b", false},
		{path(4), "Ea Eb Ec Ed (a~b&(b~c&(c~d&(!a=d&!a~d))))", true}, {path(3), "Ea Eb Ec Ed (a~b&(b~c&(c~d&(!a=d&!a~d))))", false}, {path(3), "Ea (Ea a=a&a=a)", true}, {path(3), "Ea (!Eb (a~b&Ea (a~b&!a=a))&Eb a~b)", true}, {path(3), "Ea (!Eb (a~b&!Ea (a~b&!a=a))&Eb a~b)", false},
		{path(3), "Ea (!Eb (!a=b&!a~b)&Ea Eb (!a=b&!a~b))", true}, {cycle(4), "Ea (!Eb (!a=b&!a~b)&Ea Eb (!a=b&!a~b))", false}, {path(2), "Ea Ea a=a", true}, {path(2), "Ea Eb (Ea a=b&!a=b)", true}, {apart(1), "Ed Ec (d=c&!c~d)", true},
	}
	for _, row := range table {
		f, e := like.Parse(row.s)
		same(t, row.s, e, api.OK)
		ok, e := like.Holds(row.g, f)
		sameText(t, text(row.g, row.s), []any{ok, e}, []any{row.want, api.OK})
	}
}

func TestHoldsNotClosed(t *testing.T) {
	for _, s := range []string{"a~b", "a=a", "!a=a", "Ea b=b", "Ea a=b", "Ea b~a", "Eb a~b", "Ea (a=a&b=b)", "(Ea a=a&a=a)", "(a=a&Ea a=a)", "(Ea a=a&Eb a=b)", "Ea Eb Ec a=d", "!Ea !Eb (a=b&!c=a)", "Ed (Ec c=d&c=d)"} {
		f, e := like.Parse(s)
		same(t, s, e, api.OK)
		for _, g := range []api.Graph{apart(1), path(2), complete(6)} {
			ok, e := like.Holds(g, f)
			sameText(t, s, []any{ok, e}, []any{false, api.ErrArg})
		}
	}
}

func TestHoldsMany(t *testing.T) {
	d := dice(61)
	graphs := append(manyGraphs(), allGraphs(5)...)
	closed, yes := 0, 0
	for _, f := range append(someForms(4000), someForms(4)...) {
		if nesting(f) > 5 {
			continue
		}
		for _, g := range some(graphs, 3, &d) {
			ok, e := like.Holds(g, f)
			if !isClosed(f, 0) {
				if ok || e != api.ErrArg {
					t.Fatal(g, f, ok, e)
				}
				continue
			}
			if ok != isTrue(g, f, [4]int{}) || e != api.OK {
				t.Fatal(g, f, ok, e)
			}
			closed++
			if ok {
				yes++
			}
		}
	}
	same(t, text("enough of both: ", closed, yes), closed > 2000 && yes > 500 && closed-yes > 500, true)
}

// TestHoldsDeep: also of E that stand deep within each other it is told in good time.
func TestHoldsDeep(t *testing.T) {
	never := atom(0, "~", 0)
	deep := chain(never, 39, func(i int, f form) form { return exists(i%4, f) })
	ok, e := like.Holds(complete(6), deep)
	sameText(t, "deep", []any{ok, e}, []any{false, api.OK})
	// a and b by turns walk along a path: there is a walk of so many steps
	walk := atom(0, "=", 0)
	for i := range 19 {
		walk = exists(i%2, and(atom(0, "~", 1), walk))
	}
	walk = exists(1, walk)
	for _, row := range []struct {
		g    api.Graph
		want bool
	}{{path(2), true}, {cycle(6), true}, {apart(6), false}, {beside(path(2), apart(4)), true}} {
		ok, e := like.Holds(row.g, walk)
		sameText(t, text(row.g), []any{ok, e}, []any{row.want, api.OK})
	}
	// the tree of E has as many nodes as can be, and none of them is true
	var tree func(nodes int) form
	tree = func(nodes int) form {
		if nodes < 8 {
			return never
		}
		half := (nodes - 6) / 2
		return exists(nodes%4, exists((nodes+1)%4, and(not(tree(half)), not(tree(half)))))
	}
	wide := exists(0, tree(1900))
	same(t, "wide", isValid(wide) && isClosed(wide, 0), true)
	ok, e = like.Holds(complete(6), wide)
	sameText(t, "wide", e, api.OK)
	again, _ := like.Holds(complete(6), wide)
	same(t, "wide", again, ok)
}
