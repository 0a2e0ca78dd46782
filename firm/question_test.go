package firm_test

import (
	"fmt"
	"slices"
	"strings"
	"testing"

	"lampblack/api"
)

// example is the first one of the chapter.
var example = []string{"house ada", "house bob", "house cy", "street ada bob", "street bob cy"}

// TestExamples are those of the chapter.
func TestExamples(t *testing.T) {
	f, _ := newFirm(t, example...)
	replies(t, f, "town", "town ada:bob bob:ada,cy cy:bob")
	replies(t, f, "cat", "cat 1 1")
	replies(t, f, "width", "width 1")
	replies(t, f, "guards", "guards 2")
	replies(t, f, "spare", "spare ada-bob bob-cy")
	replies(t, f, "outer", "outer yes")
	replies(t, f, "colours 3", "colours 12")
	replies(t, f, "twins ada cy", "twins yes")
	do(t, f, "flue ada 2", "flue bob 3")
	replies(t, f, "round", "round yes")
	do(t, f, "flue cy 12")
	replies(t, f, "round", "round 13")
	do(t, f, "talk ada bob", "day", "talk bob cy")
	replies(t, f, "news ada", "news ada bob cy")
	replies(t, f, "news cy", "news bob cy")
	do(t, f, "permit unlike ada bob", "permit like bob cy")
	replies(t, f, "halves", "halves ada:pm bob:am cy:am")

	f, _ = newFirm(t, "house ada", "house bob", "street ada bob")
	replies(t, f, "cat", "cat 1 1")
	replies(t, f, "width", "width 1")
	replies(t, f, "guards", "guards 2")
}

// ring has so many houses in a cycle.
func ring(n int) []string {
	var list []string
	for _, h := range names[:n] {
		list = append(list, "house "+h)
	}
	for i, h := range names[:n] {
		list = append(list, "street "+h+" "+names[(i+1)%n])
	}
	return list
}

// TestReplies: replies in towns that are known; an empty one is an error.
func TestReplies(t *testing.T) {
	clique := ring(3)
	for i, h := range names[3:7] {
		clique = append(clique, "house "+h)
		for _, k := range names[:3+i] {
			clique = append(clique, "street "+k+" "+h)
		}
	}
	table := []struct {
		changes  []string
		question string
		reply    string
		e        api.Errno
	}{
		{nil, "town", "town", 0}, {nil, "spare", "spare", 0}, {nil, "cat", "", api.ErrState}, {nil, "width", "", api.ErrNone}, {nil, "guards", "", api.ErrNone},
		{nil, "outer", "", api.ErrNone}, {nil, "colours 0", "", api.ErrNone}, {nil, "colours 6", "", api.ErrNone}, {nil, "colours 7", "", api.ErrArg}, {nil, "colours 999", "", api.ErrArg},
		{nil, "round", "", api.ErrNone}, {nil, "halves", "", api.ErrNone}, {nil, "news ada", "", api.ErrNone}, {nil, "twins ada ada", "", api.ErrNone},

		{example[:1], "town", "town ada:", 0}, {example[:1], "spare", "spare", 0}, {example[:1], "cat", "cat 1 0", 0}, {example[:1], "width", "width 0", 0}, {example[:1], "guards", "guards 1", 0},
		{example[:1], "outer", "outer yes", 0}, {example[:1], "colours 0", "colours 0", 0}, {example[:1], "colours 6", "colours 6", 0}, {example[:1], "colours 7", "", api.ErrArg},
		{example[:1], "round", "", api.ErrNone}, {example[:1], "halves", "halves ada:am", 0}, {example[:1], "news ada", "news ada", 0}, {example[:1], "news bob", "", api.ErrNone},
		{example[:1], "twins ada ada", "twins yes", 0}, {example[:1], "twins ada bob", "", api.ErrNone}, {example[:1], "twins bob ada", "", api.ErrNone},

		{example[:4], "cat", "", api.ErrState}, {example[:4], "town", "town ada:bob bob:ada cy:", 0}, {example, "twins ada bob", "twins no", 0}, {example, "colours 1", "colours 0", 0},
		{example, "colours 2", "colours 2", 0},

		{ring(4), "town", "town ada:cy,mo cy:ada,zoe mo:ada,zoe zoe:cy,mo", 0}, {ring(4), "cat", "cat 2 1", 0}, {ring(4), "width", "width 2", 0}, {ring(4), "guards", "guards 3", 0},
		{ring(4), "spare", "spare", 0}, {ring(4), "outer", "outer yes", 0}, {ring(4), "colours 2", "colours 2", 0}, {ring(4), "colours 3", "colours 18", 0},
		{ring(6), "twins mo b", "twins yes", 0}, {ring(7), "twins mo b", "", api.ErrSize}, {ring(7), "twins mo nobody", "", api.ErrNone}, {ring(7), "twins nobody mo", "", api.ErrNone},
		{ring(7), "cat", "cat 2 2", 0}, {clique, "cat", "cat 1 1", 0}, {clique, "width", "width 6", 0}, {clique, "guards", "guards 7", 0}, {clique, "outer", "outer no", 0},
		{clique, "spare", "spare", 0}, {clique, "colours 6", "colours 0", 0}, {clique, "halves", "halves ada:am adam:am b:am cy:am housewif:am mo:am zoe:am", 0},

		{[]string{"house b", "house ab", "house a", "street b a", "street ab b"}, "spare", "spare a-b ab-b", 0},
		{[]string{"house a", "house ab", "house z", "street ab z", "street z a"}, "spare", "spare a-z ab-z", 0},
		{[]string{"house c", "house a", "house b", "street a c", "street b a"}, "spare", "spare a-b a-c", 0},

		{[]string{"house zoe", "house ada", "permit unlike zoe ada"}, "halves", "halves ada:am zoe:pm", 0},
		{[]string{"house zoe", "house ada", "permit early zoe ada"}, "halves", "halves ada:am zoe:am", 0},
		{[]string{"house a", "house b", "house c", "permit unlike a b", "permit unlike a c", "permit early b c"}, "halves", "halves a:pm b:am c:am", 0},
		{[]string{"house c", "house b", "house a", "permit unlike c b", "permit early c a", "permit unlike a b"}, "halves", "halves a:am b:pm c:am", 0},
		{[]string{"house a", "permit unlike a a"}, "halves", "", api.ErrState}, {[]string{"house a", "permit early a a", "permit like a a"}, "halves", "halves a:am", 0},
		{[]string{"house a", "house b", "permit unlike a b", "permit like b a"}, "halves", "", api.ErrState},

		{[]string{"house a", "flue a 1"}, "round", "round yes", 0}, {[]string{"house a", "house b", "flue a 1", "flue b 12"}, "round", "round 11", 0},
		{[]string{"house a", "house b", "flue b 1", "flue a 1"}, "round", "round 0", 0},
		{full(), "news d", "news c d", 0}, {full(), "news bb", "news a bb", 0}, {full(), "news abcdefgh", "news abcdefgh", 0},
		{[]string{"house c", "house b", "house a", "talk c b", "day", "day", "talk a c"}, "news b", "news a b c", 0},
		{[]string{"house c", "house b", "house a", "talk c b", "day", "day", "talk a c"}, "news a", "news a c", 0},
	}
	for _, row := range table {
		f, d := newFirm(t, row.changes...)
		before := files(t, d)
		if row.e == api.OK {
			replies(t, f, row.question, row.reply)
		} else {
			fails(t, f, row.question, row.e)
		}
		same(t, "files", files(t, d), before)
	}
}

// TestAskMany compares all replies with a ledger, and is P10.14: asking changes nothing.
func TestAskMany(t *testing.T) {
	for seed := range 120 {
		f, d := newFirm(t)
		l := newLedger()
		for _, c := range someChanges(seed, seed%8%7+seed%2, 5+seed%40) {
			_, e := f.Do(c)
			same(t, c, e, l.do(c))
		}
		before, state := files(t, d), f.State()
		list := asked(l)
		for _, q := range slices.Concat(list, list[:7]) {
			want, wrong := l.ask(q)
			reply, e := f.Ask(q)
			if reply != want || e != wrong {
				t.Fatalf("%q: %s: %q %v instead of %q %v", state, q, reply, e, want, wrong)
			}
		}
		same(t, "state", f.State(), state)
		same(t, "files", files(t, d), before)
		same(t, "mark", f.Mark(), 1)
	}
}

// reply returns the reply to a question, or an error as a text.
func (f asker) reply(question string) string {
	reply, e := f.Ask(question)
	if e != api.OK {
		return fmt.Sprint("error ", int(e))
	}
	return reply
}

// asker is a firm that is asked.
type asker struct {
	Ask func(question string) (string, api.Errno)
}

// number returns the last number of a reply, or false if there is an error.
func (f asker) number(question string) (int, bool) {
	w := strings.Fields(f.reply(question))
	return value(w[len(w)-1]), w[0] != "error"
}

// towns returns the changes of many towns.
func towns() [][]string {
	list := [][]string{ring(3), ring(5), ring(7)}
	for seed := range 150 {
		list = append(list, someChanges(seed+1000, 1+seed%7, 3+seed%25))
	}
	return list
}

// TestClosing is P10.9.
func TestClosing(t *testing.T) {
	for _, changes := range towns() {
		f, _ := newFirm(t)
		l := newLedger()
		for _, c := range changes {
			f.Do(c)
			l.do(c)
		}
		state := f.State()
		for _, h := range l.houses {
			for _, k := range l.houses {
				if _, e := f.Do("street " + h + " " + k); e != api.OK {
					continue
				}
				same(t, "a street more", f.State() != state, true)
				do(t, f, "close "+k+" "+h)
				same(t, "closed", f.State(), state)
				do(t, f, "street "+h+" "+k, "close "+h+" "+k)
				same(t, "closed", f.State(), state)
			}
		}
	}
}

// TestNumbers is P10.10.
func TestNumbers(t *testing.T) {
	for _, changes := range towns() {
		f, _ := newFirm(t)
		for _, c := range changes {
			f.Do(c)
		}
		a := asker{f.Ask}
		width, ok := a.number("width")
		guards, _ := a.number("guards")
		same(t, "there is a house", ok, true)
		same(t, "width is less than guards", width < guards, true)
		if a.reply("outer") == "outer yes" {
			same(t, "width is at most 2", width <= 2, true)
		}
		last := 0
		for n := range 7 {
			ways, _ := a.number(fmt.Sprint("colours ", n))
			same(t, "more colours are not less", ways >= last, true)
			same(t, "enough colours", ways > 0 || n <= width, true)
			last = ways
		}
	}
}

// TestCat is P10.11.
func TestCat(t *testing.T) {
	tried := 0
	for _, changes := range towns() {
		f, _ := newFirm(t)
		l := newLedger()
		for _, c := range changes {
			f.Do(c)
			l.do(c)
		}
		before := strings.Fields(asker{f.Ask}.reply("cat"))
		if before[0] == "error" || len(l.houses) == 7 {
			continue
		}
		tried++
		for _, h := range l.houses {
			g, _ := newFirm(t, append(f.Dump(), "house new", "street new "+h)...)
			after := strings.Fields(asker{g.Ask}.reply("cat"))
			same(t, "sweeps", after[0]+" "+after[1], "cat "+before[1])
		}
	}
	same(t, "enough", tried > 20, true)
}

// TestSpare is P10.12.
func TestSpare(t *testing.T) {
	tried := 0
	for _, changes := range towns() {
		f, _ := newFirm(t)
		for _, c := range changes {
			f.Do(c)
		}
		before := ledgerOf(t, f.State()).parts()
		said := strings.Fields(asker{f.Ask}.reply("spare"))
		for _, s := range said[1:] {
			g, _ := newFirm(t, f.Dump()...)
			do(t, g, "close "+strings.Replace(s, "-", " ", 1))
			same(t, s, ledgerOf(t, g.State()).parts(), before+1)
			tried++
		}
	}
	same(t, "enough", tried > 100, true)
}

// TestNames is P10.13: other names in the same order change replies by these names alone.
func TestNames(t *testing.T) {
	first := slices.Sorted(slices.Values(names))
	second := []string{"a", "aa", "ab", "house", "mark", "y", "z", "zzzzzzzz"}
	rename := func(text, between string) string {
		var list []string
		for w := range strings.SplitSeq(text, between) {
			if i := slices.Index(first, w); i >= 0 {
				w = second[i]
			}
			list = append(list, w)
		}
		return strings.Join(list, between)
	}
	renamed := func(text string) string {
		return rename(strings.NewReplacer(":", " : ", ",", " , ", "-", " - ").Replace(text), " ")
	}
	for _, changes := range towns() {
		f, _ := newFirm(t)
		g, _ := newFirm(t)
		l := newLedger()
		for _, c := range changes {
			if c == "day" {
				f.Do(c)
				g.Do(c)
				continue
			}
			l.do(c)
			_, e1 := f.Do(c)
			_, e2 := g.Do(rename(c, " "))
			same(t, c, e1, e2)
		}
		for _, q := range asked(l) {
			r := asker{g.Ask}.reply(rename(q, " "))
			same(t, q, strings.NewReplacer(":", " : ", ",", " , ", "-", " - ").Replace(r), renamed(asker{f.Ask}.reply(q)))
		}
	}
}
