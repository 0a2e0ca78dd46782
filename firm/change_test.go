package firm_test

import (
	"fmt"
	"slices"
	"strings"
	"testing"

	"lampblack/api"
	"lampblack/firm"
)

// wrong are what is neither a change nor a question.
func wrong() []string {
	long := strings.Repeat("a", 61)
	list := []string{
		"", " ", "  ", "x", "Town", "town ", " town", "town x", "town  ", "to wn", "town\n", "town\x00", "\ttown", "tówn",
		"House ada", "house", "house ", "house  ada", "house ada ", " house ada", "house ada bob", "house Ada", "house ada1", "house a-a", "house a_a", "house 1",
		"house abcdefghi", "house " + long, "house ada\n", "house\tada", "house\nada", "house adä", "house a\xff", "house a{", "house `", "house a\x7f", "house a,b",
		"street", "street ada", "street ada bob cy", "street ada  bob", "street ada 1", "street 1 ada", "street Ada bob", "street ada Bob",
		"close", "close ada", "close ada bob cy", "close ada 2", "close 2 ada",
		"flue", "flue ada", "flue 1", "flue 1 ada", "flue ada bob", "flue ada 1 2", "flue ada 01", "flue ada 00", "flue ada 1000", "flue ada 0001", "flue ada -1", "flue ada +1",
		"flue ada 1.", "flue ada 0x1", "flue ada 1_0", "flue ada 1e1", "flue ada ", "flue ada  1", "flue ada 1 ", "flue ada ١", "flue ada 99999999999999999999", "flue ada -", "flue Ada 1", "flue ada -0",
		"permit", "permit ada bob", "permit late ada bob", "permit unlike", "permit unlike ada", "permit unlike ada bob cy", "permit ada unlike bob", "permit ada bob like",
		"permit Like ada bob", "permit  ada bob", "permit like ada 1", "permit like 1 ada", "permit 1 ada bob", "permit unlike  ada bob", "permit lik ada bob",
		"talk", "talk ada", "talk ada bob cy", "talk ada 1", "talk 1 bob", "talk ada bob ",
		"day ", "day 1", "day ada", " day", "days", "da", "mark 1", "mark 2", "done", "done ",
		"cat 1", "cat ada", "width 1", "guards 1", "spare ada", "outer ada", "round 1", "halves am",
		"colours", "colours ", "colours a", "colours 01", "colours 1000", "colours -1", "colours 1 2", "colours +1", "colours  1", "colours 3 ",
		"news", "news ", "news 1", "news ada bob", "news Ada", "news abcdefghi", "news  ada",
		"twins", "twins ada", "twins ada bob cy", "twins ada 1", "twins 1 ada", "twins ada  bob",
		long, strings.Repeat("town ", 13), strings.Repeat(" ", 100_000), strings.Repeat("a", 100_000), "house " + strings.Repeat("ada ", 20_000),
	}
	for b := range 256 {
		if b < 'a' || b > 'z' {
			list = append(list, "house a"+string([]byte{byte(b)}), "house "+string([]byte{byte(b)})+"a")
		}
		if b < '0' || b > '9' {
			list = append(list, "flue ada 1"+string([]byte{byte(b)}), "colours "+string([]byte{byte(b)}))
		}
	}
	return list
}

// TestForm: ErrForm of Do and Ask, also where the first word is one of the other function.
func TestForm(t *testing.T) {
	for _, changes := range [][]string{nil, {"house ada", "house bob", "street ada bob"}} {
		f, d := newFirm(t, changes...)
		before := files(t, d)
		for _, line := range wrong() {
			refuse(t, f, line, api.ErrForm)
			fails(t, f, line, api.ErrForm)
		}
		for _, line := range asked(newLedger()) {
			refuse(t, f, line, api.ErrForm)
		}
		for _, line := range []string{"house ada", "street ada bob", "close ada bob", "flue ada 1", "permit like ada bob", "talk ada bob", "day"} {
			fails(t, f, line, api.ErrForm)
		}
		same(t, "files", files(t, d), before)
	}
}

// TestChanges: after changes, one has an error, or none.
func TestChanges(t *testing.T) {
	three := []string{"house ada", "house bob", "house cy"}
	seven := []string{"house a", "house b", "house c", "house d", "house e", "house f", "house abcdefgh"}
	many := func(n int, lines ...string) []string { return slices.Repeat(lines, n) }
	after := func(lists ...[]string) []string { return slices.Concat(lists...) }
	flues := func(days ...int) []string {
		list := slices.Clone(seven)
		for i, n := range days {
			list = append(list, fmt.Sprint("flue ", strings.TrimPrefix(seven[i], "house "), " ", n))
		}
		return list
	}
	talks := after(seven, many(8, "talk a b", "talk c d", "talk e f", "day"))
	table := []struct {
		before []string
		change string
		want   api.Errno
	}{
		{nil, "house ada", api.OK}, {three, "house ada", api.ErrState}, {three, "house cy", api.ErrState}, {three, "house c", api.OK},
		{seven[:6], "house z", api.OK}, {seven, "house z", api.ErrFull}, {seven, "house a", api.ErrState}, {seven, "house abcdefgh", api.ErrState},
		{nil, "house house", api.OK}, {nil, "house day", api.OK},

		{nil, "street ada bob", api.ErrNone}, {three, "street ada dan", api.ErrNone}, {three, "street dan ada", api.ErrNone}, {three, "street dan dan", api.ErrNone},
		{three, "street ada ada", api.ErrState}, {three, "street ada cy", api.OK}, {three, "street cy ada", api.OK},
		{after(three, []string{"street ada cy"}), "street ada cy", api.ErrState}, {after(three, []string{"street ada cy"}), "street cy ada", api.ErrState},
		{after(three, []string{"street ada cy"}), "street ada bob", api.OK}, {after(three, []string{"street ada cy", "close cy ada"}), "street cy ada", api.OK},

		{nil, "close ada bob", api.ErrNone}, {three, "close ada bob", api.ErrNone}, {three, "close ada ada", api.ErrNone}, {three, "close dan ada", api.ErrNone}, {three, "close ada dan", api.ErrNone},
		{after(three, []string{"street ada cy"}), "close ada cy", api.OK}, {after(three, []string{"street ada cy"}), "close cy ada", api.OK},
		{after(three, []string{"street ada cy"}), "close ada bob", api.ErrNone}, {after(three, []string{"street ada cy", "close ada cy"}), "close ada cy", api.ErrNone},

		{nil, "flue ada 1", api.ErrNone}, {nil, "flue ada 13", api.ErrNone}, {three, "flue dan 0", api.ErrNone}, {three, "flue ada 1", api.OK}, {three, "flue ada 12", api.OK},
		{three, "flue ada 0", api.ErrArg}, {three, "flue ada 13", api.ErrArg}, {three, "flue ada 100", api.ErrArg}, {three, "flue ada 999", api.ErrArg},
		{flues(3), "flue a 3", api.ErrState}, {flues(3), "flue a 13", api.ErrState}, {flues(3), "flue b 13", api.ErrArg},
		{flues(1, 1, 1, 1), "flue e 1", api.OK}, {flues(1, 1, 1, 1, 1), "flue f 1", api.ErrFull}, {flues(1, 1, 1, 1, 1), "flue f 13", api.ErrArg}, {flues(1, 1, 1, 1, 1), "flue a 1", api.ErrState},
		{flues(10, 10, 10), "flue d 4", api.OK}, {flues(10, 10, 10), "flue d 5", api.ErrFull}, {flues(10, 10, 10), "flue d 0", api.ErrArg}, {flues(10, 10, 10), "flue a 5", api.ErrState},
		{flues(10, 10, 10), "flue z 5", api.ErrNone}, {flues(10, 10, 10, 4), "flue e 1", api.OK}, {flues(10, 10, 10, 4), "flue e 2", api.ErrFull}, {flues(12, 12, 12), "flue d 3", api.ErrFull}, {flues(12, 12, 12), "flue d 2", api.OK},

		{nil, "permit like ada bob", api.ErrNone}, {three, "permit like ada dan", api.ErrNone}, {three, "permit early dan ada", api.ErrNone}, {three, "permit unlike dan dan", api.ErrNone},
		{three, "permit unlike ada bob", api.OK}, {three, "permit like bob ada", api.OK}, {three, "permit early ada cy", api.OK}, {three, "permit unlike ada ada", api.OK},
		{after(three, many(11, "permit like ada bob")), "permit like ada bob", api.OK}, {after(three, many(12, "permit like ada bob")), "permit early ada bob", api.ErrFull},
		{after(three, many(12, "permit like ada bob")), "permit like ada dan", api.ErrNone}, {after(three, many(12, "permit like ada bob")), "permit like dan ada", api.ErrNone},

		{nil, "talk ada bob", api.ErrNone}, {three, "talk ada dan", api.ErrNone}, {three, "talk dan ada", api.ErrNone}, {three, "talk dan dan", api.ErrNone}, {three, "talk ada ada", api.ErrState}, {three, "talk ada bob", api.OK},
		{after(three, []string{"talk ada bob"}), "talk ada bob", api.ErrState}, {after(three, []string{"talk ada bob"}), "talk bob cy", api.ErrState}, {after(three, []string{"talk ada bob"}), "talk cy bob", api.ErrState},
		{after(three, []string{"talk ada bob"}), "talk cy ada", api.ErrState}, {after(three, []string{"talk ada bob"}), "talk cy dan", api.ErrNone}, {after(three, []string{"talk ada bob", "day"}), "talk cy ada", api.OK},
		{after(seven, []string{"talk a b"}), "talk c d", api.OK}, {after(seven, []string{"talk a b", "talk d c"}), "talk c e", api.ErrState},
		{talks[:len(talks)-2], "talk e f", api.OK}, {talks, "talk a b", api.ErrFull}, {talks, "talk a a", api.ErrState}, {talks, "talk a z", api.ErrNone},
		{talks[:len(talks)-1], "talk a abcdefgh", api.ErrState}, {talks[:len(talks)-2], "talk f abcdefgh", api.OK},

		{nil, "day", api.OK}, {many(28, "day"), "day", api.OK}, {many(29, "day"), "day", api.ErrFull},
	}
	for _, row := range table {
		f, d := newFirm(t, row.before...)
		before := files(t, d)
		if row.want == api.OK {
			do(t, f, row.change)
			before[0] += row.change + "\n"
		} else {
			refuse(t, f, row.change, row.want)
		}
		same(t, "files", files(t, d), before)
	}
}

// TestDoMany compares Do and Dump with a ledger.
func TestDoMany(t *testing.T) {
	chance := dice(17)
	for range 60 {
		f, d := newFirm(t)
		l := newLedger()
		book := newBooks
		for range 150 {
			c := changeOf(&chance)
			want := l.do(c)
			reply, e := f.Do(c)
			first := ""
			if want == api.OK {
				book += c + "\n"
				first, _, _ = strings.Cut(c, " ")
			}
			if e != want || reply != first || !slices.Equal(f.Dump(), l.dump()) || f.State() != ended(l.dump()...) || f.Mark() != 1 {
				t.Fatalf("%s: %v %v %q %q", c, e, want, f.State(), l.dump())
			}
		}
		same(t, "files", files(t, d), [2]string{book})
	}
}

// TestDoPower: Do appends, and syncs; an ErrPower at either makes no change, and all that
// writes has ErrState from then on, whatever happens to the disk.
func TestDoPower(t *testing.T) {
	for k := range 2 {
		f, d := newFirm(t, "house ada")
		before := files(t, d)[0]
		d.Fuse(k)
		refuse(t, f, "house ada", api.ErrState)
		refuse(t, f, "house", api.ErrForm)
		same(t, "takes nothing of the fuse", files(t, d)[0], before)
		refuse(t, f, "house bob", api.ErrPower)
		isLost(t, f, "house ada\n")
		d.Crash(100, 100)
		same(t, "files", files(t, d), [2]string{before + "house bob\n"[:10*k]})
		isLost(t, f, "house ada\n")
		same(t, "files", files(t, d), [2]string{before + "house bob\n"[:10*k]})
		g := open(t, d)
		do(t, g, "house cy")
		isLost(t, f, "house ada\n")
	}
	f, d := newFirm(t)
	d.Fuse(2)
	do(t, f, "house ada")
	refuse(t, f, "house bob", api.ErrPower)
	d.Crash(0, 0)
	same(t, "synced", files(t, d), [2]string{newBooks + "house ada\n"})
}

// isLost checks that a Firm with a house ada writes nothing any more, but still answers.
func isLost(t *testing.T, f *firm.Firm, state string) {
	t.Helper()
	for _, line := range []string{"house bob", "house ada", "house", "day", ""} {
		refuse(t, f, line, api.ErrState)
	}
	same(t, "Compact", f.Compact(), api.ErrState)
	replies(t, f, "town", "town ada:")
	fails(t, f, "news bob", api.ErrNone)
	same(t, "State", f.State(), state)
	same(t, "Mark", f.Mark(), 1)
}

// TestDoOff: a Firm whose disk lost its power in a call of somebody else.
func TestDoOff(t *testing.T) {
	f, d := newFirm(t, "house ada")
	d.Fuse(0)
	same(t, "off", d.Sync(0), api.ErrPower)
	refuse(t, f, "house", api.ErrForm)
	refuse(t, f, "house ada", api.ErrState)
	d.Crash(0, 0)
	do(t, f, "house bob") // no call of f had an ErrPower
	d.Fuse(0)
	d.Sync(0)
	refuse(t, f, "house cy", api.ErrPower)
	d.Crash(0, 0)
	refuse(t, f, "house cy", api.ErrState)
}

// TestDoFull: ErrFull where the disk has no space, also while the power is off, and after the
// errors of the change; what has space is done.
func TestDoFull(t *testing.T) {
	size := len(newBooks) + len("house ada\nday\n")
	d := newDisk(t, size+3)
	f := open(t, d)
	do(t, f, "house ada", "day")
	for range 2 {
		refuse(t, f, "day", api.ErrFull)
		refuse(t, f, "house ada", api.ErrState)
		refuse(t, f, "house", api.ErrForm)
	}
	same(t, "state", f.State(), "house ada\nday\n")
	d.Fuse(0)
	d.Sync(0)
	refuse(t, f, "day", api.ErrFull)
	d.Crash(0, 0)
	refuse(t, f, "day", api.ErrFull)
	d = newDisk(t, size+4)
	f = open(t, d)
	do(t, f, "house ada", "day", "day")
	refuse(t, f, "day", api.ErrFull)
	same(t, "files", files(t, d), [2]string{newBooks + "house ada\nday\nday\n"})

	d = newDisk(t, 30)
	f = open(t, d)
	same(t, "append", d.Append(1, make([]byte, 10)), api.OK)
	refuse(t, f, "house ab", api.ErrFull) // 12 and 10 and 9
	do(t, f, "house a")
}

// TestOwnFile: the file that Open left as the one that counts remains so, whatever is done to
// the disk.
func TestOwnFile(t *testing.T) {
	f, d := newFirm(t, "house ada")
	same(t, "clear", d.Clear(0), api.OK)
	same(t, "append", d.Append(1, []byte("mark 9\nhouse zoe\ndone\n")), api.OK)
	do(t, f, "house bob")
	same(t, "files", files(t, d), [2]string{"house bob\n", "mark 9\nhouse zoe\ndone\n"})
	same(t, "state", f.State(), "house ada\nhouse bob\n")
	same(t, "mark", f.Mark(), 1)
	g := open(t, d)
	same(t, "mark", g.Mark(), 9)
	same(t, "state", g.State(), "house zoe\n")
	do(t, f, "house cy")
	do(t, g, "day")
	same(t, "files", files(t, d), [2]string{"house cy\n", "mark 9\nhouse zoe\ndone\nday\n"})
	same(t, "state", f.State(), "house ada\nhouse bob\nhouse cy\n")
}

// TestUnmade: what Open did not return has ErrNil before all other errors, and no effect.
func TestUnmade(t *testing.T) {
	f, d := newFirm(t, "house ada")
	before := files(t, d)
	copied := *f
	overwritten, _ := newFirm(t)
	*overwritten = *f
	for name, u := range map[string]*firm.Firm{"nil": nil, "empty": {}, "new": new(firm.Firm), "copied": &copied, "overwritten": overwritten} {
		for _, line := range []string{"house bob", "town", "", "day"} {
			reply, e := u.Do(line)
			same(t, name, e, api.ErrNil)
			same(t, name, reply, "")
			reply, e = u.Ask(line)
			same(t, name, e, api.ErrNil)
			same(t, name, reply, "")
		}
		same(t, name, u.Compact(), api.ErrNil)
		same(t, name, len(u.Dump()), 0)
		same(t, name, u.State(), "")
		same(t, name, u.Mark(), 0)
	}
	same(t, "files", files(t, d), before)
	do(t, f, "house bob")
}

// TestDumpIsNew: changing what Dump returned changes no state.
func TestDumpIsNew(t *testing.T) {
	f, _ := newFirm(t, full()...)
	before := f.State()
	l := f.Dump()
	clear(l[:cap(l)])
	same(t, "state", f.State(), before)
}
