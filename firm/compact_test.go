package firm_test

import (
	"fmt"
	"slices"
	"strings"
	"testing"

	"lampblack/api"
	"lampblack/firm"
)

// TestCompact: the books are laid in the other file, and the one that counted is cleared.
func TestCompact(t *testing.T) {
	f, d := newFirm(t, "house zoe", "house ada", "street ada zoe", "close ada zoe", "street ada zoe", "talk ada zoe", "day")
	dump := "house zoe\nhouse ada\nstreet zoe ada\ntalk ada zoe\nday\n"
	same(t, "Compact", f.Compact(), api.OK)
	same(t, "files", files(t, d), [2]string{"", "mark 2\n" + dump + "done\n"})
	same(t, "mark", f.Mark(), 2)
	same(t, "state", f.State(), dump)
	do(t, f, "close zoe ada")
	same(t, "files", files(t, d), [2]string{"", "mark 2\n" + dump + "done\nclose zoe ada\n"})
	same(t, "Compact", f.Compact(), api.OK)
	same(t, "files", files(t, d), [2]string{"mark 3\nhouse zoe\nhouse ada\ntalk ada zoe\nday\ndone\n"})
	same(t, "mark", f.Mark(), 3)
	same(t, "Compact", f.Compact(), api.OK)
	same(t, "mark", f.Mark(), 4)
	g := open(t, d)
	same(t, "mark", g.Mark(), 4)
	same(t, "state", g.State(), f.State())
}

// TestCompactMany is P10.7 and P10.8.
func TestCompactMany(t *testing.T) {
	for seed := range 60 {
		l := newLedger()
		var done []string
		f, d := newFirm(t)
		for i, c := range someChanges(seed, 1+seed%7, 60) {
			if _, e := f.Do(c); e == api.OK {
				done = append(done, c)
			}
			l.do(c)
			if i%9 > 0 {
				continue
			}
			state, mark, old := f.State(), f.Mark(), files(t, d)
			same(t, "Compact", f.Compact(), api.OK)
			same(t, "state", f.State(), state)
			same(t, "state", state, ended(l.dump()...))
			same(t, "mark", f.Mark(), mark+1)
			laid := fmt.Sprint("mark ", mark+1, "\n", state, "done\n")
			want := [2]string{}
			want[mark%2] = laid
			same(t, "files", files(t, d), want)
			room := len(ended(done...)) + len(fmt.Sprint("mark ", mark+1, "\ndone\n"))
			same(t, "room", len(laid) <= room, true)
			enough := newDisk(t, len(old[0])+len(old[1])+room, old[:]...)
			same(t, "with that room", open(t, enough).Compact(), api.OK)
			g, _ := newFirm(t, f.Dump()...)
			same(t, "replay", g.State(), state)
			same(t, "open", open(t, d).State(), state)
		}
	}
}

// TestDumpIsShort: without any of its lines, those of Dump do not make the State.
func TestDumpIsShort(t *testing.T) {
	for seed := range 30 {
		f, _ := newFirm(t)
		for _, c := range someChanges(seed, 3+seed%5, 20) {
			f.Do(c)
		}
		for i := range f.Dump() {
			g, _ := newFirm(t)
			for _, c := range slices.Delete(f.Dump(), i, i+1) {
				g.Do(c)
			}
			same(t, f.Dump()[i], g.State() == f.State(), false)
		}
	}
}

// TestDumpOrder is P10.5: in what order Dump has what came in another one.
func TestDumpOrder(t *testing.T) {
	f, _ := newFirm(t,
		"day", "house zoe", "house mo", "day", "talk mo zoe", "house ada", "permit like zoe zoe", "street ada zoe", "flue mo 12", "house b", "flue zoe 1",
		"permit early b ada", "talk ada b", "street b mo", "street ada mo", "day", "day", "permit like zoe zoe", "street mo zoe", "close zoe mo", "street b zoe",
		"flue ada 7", "talk b mo", "talk ada zoe", "permit unlike ada b", "day")
	want := []string{
		"house zoe", "house mo", "house ada", "house b", "street zoe ada", "street zoe b", "street mo ada", "street mo b", "flue mo 12", "flue zoe 1", "flue ada 7",
		"permit like zoe zoe", "permit early b ada", "permit like zoe zoe", "permit unlike ada b",
		"day", "day", "talk mo zoe", "talk ada b", "day", "day", "talk b mo", "talk ada zoe", "day",
	}
	same(t, "dump", strings.Join(f.Dump(), "; "), strings.Join(want, "; "))
	same(t, "state", f.State(), ended(want...))
	f, _ = newFirm(t)
	same(t, "empty", len(f.Dump()), 0)
	same(t, "empty", f.State(), "")
	f, _ = newFirm(t, full()...)
	same(t, "full", len(f.Dump()), 7+1+5+12+24+29)
}

// TestCompactFull: ErrFull without the space, or after the last mark, before ErrPower;
// nothing is changed then.
func TestCompactFull(t *testing.T) {
	old := "mark 9\nhouse ada\ndone\nhouse bob\n"
	laid := "mark 10\nhouse ada\nhouse bob\ndone\n"
	for _, file := range []int{0, 1} {
		texts, want := [2]string{}, [2]string{}
		texts[file], want[1-file] = old, laid
		for _, off := range []bool{false, true} {
			for less := range 3 {
				d := newDisk(t, len(old)+len(laid)-less, texts[:]...)
				f := open(t, d)
				if off {
					d.Fuse(0)
					d.Sync(0)
				}
				if less == 0 && !off {
					same(t, "Compact", f.Compact(), api.OK)
					same(t, "files", files(t, d), want)
					same(t, "mark", f.Mark(), 10)
					continue
				}
				e := api.ErrFull
				if less == 0 {
					e = api.ErrPower
				}
				same(t, "Compact", f.Compact(), e)
				d.Crash(0, 0)
				same(t, "files", files(t, d), texts)
				same(t, "mark", f.Mark(), 9)
				if less > 0 {
					same(t, "again", f.Compact(), api.ErrFull)
					refuse(t, f, "house bob", api.ErrState)
					do(t, f, "day")
				}
			}
		}
	}
	d := newDisk(t, 1000, "", "mark 999998\ndone\n")
	f := open(t, d)
	same(t, "to the last mark", f.Compact(), api.OK)
	same(t, "mark", f.Mark(), 999_999)
	for range 2 {
		same(t, "the last mark", f.Compact(), api.ErrFull)
		same(t, "mark", f.Mark(), 999_999)
		same(t, "files", files(t, d), [2]string{"mark 999999\ndone\n"})
	}
	d.Fuse(0)
	d.Sync(0)
	same(t, "the last mark, the power off", f.Compact(), api.ErrFull)
	d.Crash(0, 0)
	do(t, f, "house ada")
	same(t, "files", files(t, d), [2]string{"mark 999999\ndone\nhouse ada\n"})
}

// TestCompactPower: Append, Sync and Clear; an ErrPower at any of them changes neither the
// mark nor which file counts, and the Firm writes no more.
func TestCompactPower(t *testing.T) {
	laid := "mark 2\nhouse ada\ndone\n"
	old := newBooks + "house ada\n"
	for k := range 4 {
		f, d := newFirm(t, "house ada")
		d.Fuse(k)
		if k == 3 {
			same(t, "Compact", f.Compact(), api.OK)
			same(t, "no more steps", d.Sync(0), api.ErrPower)
			d.Crash(0, 0)
			same(t, "files", files(t, d), [2]string{"", laid})
			continue
		}
		same(t, "Compact", f.Compact(), api.ErrPower)
		isLost(t, f, "house ada\n")
		d.Crash(0, 5)
		want := [][2]string{{old, ""}, {old, laid[:5]}, {old, laid}}[k]
		same(t, "files", files(t, d), want)
		isLost(t, f, "house ada\n")
		same(t, "files", files(t, d), want)
		g := open(t, d)
		same(t, "mark", g.Mark(), []int{1, 1, 2}[k])
		same(t, "state", g.State(), "house ada\n")
		isLost(t, f, "house ada\n")
	}
}

// TestCompactOther: what somebody wrote to the other file remains before what is laid there.
func TestCompactOther(t *testing.T) {
	f, d := newFirm(t, "house ada")
	same(t, "append", d.Append(1, []byte("mark 5\ndone\n")), api.OK)
	same(t, "Compact", f.Compact(), api.OK)
	same(t, "files", files(t, d), [2]string{"", "mark 5\ndone\nmark 2\nhouse ada\ndone\n"})
	same(t, "mark", f.Mark(), 2)
	do(t, f, "day")
	same(t, "files", files(t, d), [2]string{"", "mark 5\ndone\nmark 2\nhouse ada\ndone\nday\n"})
	same(t, "Compact", f.Compact(), api.OK)
	same(t, "files", files(t, d), [2]string{"mark 3\nhouse ada\nday\ndone\n"})
}

// compact stands in a script for a Compact.
const compact = "Compact"

// script returns changes, with a Compact now and then.
func script(seed int) []string {
	list := someChanges(seed, 3+seed%3, 12)
	for i := 4; i < len(list); i += 5 {
		list = slices.Insert(list, i, compact)
	}
	return list
}

// run does a script until something has an ErrPower. It returns the State of what was
// acknowledged, the one with what had the ErrPower, and the rest of the script behind that:
// nil if nothing had.
func run(t *testing.T, f *firm.Firm, l *ledger, script []string) (sure, maybe string, rest []string) {
	t.Helper()
	for i, c := range script {
		sure = ended(l.dump()...)
		e := api.OK
		if c == compact {
			e = f.Compact()
		} else {
			_, e = f.Do(c)
		}
		if e == api.ErrPower {
			if c != compact {
				same(t, c, l.do(c), api.OK)
			}
			return sure, ended(l.dump()...), script[i+1:]
		}
		if c != compact {
			same(t, c, e, l.do(c))
		}
	}
	sure = ended(l.dump()...)
	return sure, sure, nil
}

// ledgerOf returns the ledger of a State.
func ledgerOf(t *testing.T, state string) *ledger {
	t.Helper()
	l := newLedger()
	for c := range strings.Lines(state) {
		same(t, c, l.do(strings.TrimSuffix(c, "\n")), api.OK)
	}
	return l
}

// TestDurability is P10.6 and P6: whatever remains of what was not safe, after a power loss
// at any operation, also of the Open that follows it.
func TestDurability(t *testing.T) {
	for seed := range 6 {
		for k := 0; ; k++ {
			var rest []string
			for _, kept := range []int{0, 1, 7, 12, 30, 80, 10_000} {
				for again := range 4 {
					f, d := newFirm(t)
					d.Fuse(k)
					var sure, maybe string
					sure, maybe, rest = run(t, f, newLedger(), script(seed))
					d.Crash(kept, kept)
					d.Fuse(again)
					if _, e := firm.Open(d); e != api.OK {
						same(t, "Open", e, api.ErrPower)
						d.Crash(kept, kept)
					}
					d.Fuse(-1)
					g := open(t, d)
					if state := g.State(); state != sure && state != maybe {
						t.Fatalf("%d %d %d %d: %q is neither %q nor %q", seed, k, kept, again, state, sure, maybe)
					}
					l := ledgerOf(t, g.State())
					run(t, g, l, rest)
					same(t, "the rest", g.State(), ended(l.dump()...))
					same(t, "the rest", open(t, d).State(), g.State())
				}
			}
			if rest == nil { // no power was lost
				break
			}
		}
	}
}

// TestDurabilityByByte keeps every number of bytes that are not safe.
func TestDurabilityByByte(t *testing.T) {
	acts := []string{"house ada", "house bob", "street ada bob", compact, "talk ada bob", "day", compact, compact, "close bob ada"}
	for k := range 30 {
		for kept := range 80 {
			f, d := newFirm(t)
			d.Fuse(k)
			sure, maybe, _ := run(t, f, newLedger(), acts)
			d.Crash(kept, kept)
			g := open(t, d)
			if state := g.State(); state != sure && state != maybe {
				t.Fatalf("%d %d: %q is neither %q nor %q", k, kept, state, sure, maybe)
			}
			same(t, "mark", g.Mark() == f.Mark() || g.Mark() == f.Mark()+1, true)
		}
	}
}
