package firm_test

import (
	"fmt"
	"strings"
	"testing"

	"lampblack/api"
	"lampblack/firm"
)

const newBooks = "mark 1\ndone\n"

// TestOpenNew is P10.2 if no file counts: both are cleared, then one Append and one Sync.
func TestOpenNew(t *testing.T) {
	for _, junk := range []string{"", "x", "mark 1\n", "mark 1\ndone", "done\n"} {
		steps := [][2]string{{junk, "junk"}, {"", "junk"}, {"", ""}, {newBooks, ""}, {newBooks, ""}}
		for k, want := range steps {
			d := newDisk(t, 100, junk, "junk")
			d.Fuse(k)
			f, e := firm.Open(d)
			same(t, fmt.Sprint(k), e == api.OK, k == 4)
			same(t, fmt.Sprint(k), f != nil, k == 4)
			if k < 4 {
				same(t, fmt.Sprint(k), e, api.ErrPower)
				d.Crash(12, 0)
			}
			same(t, fmt.Sprint(k), files(t, d), want)
			d.Fuse(-1)
			f = open(t, d)
			same(t, "books", files(t, d), [2]string{newBooks})
			same(t, "mark", f.Mark(), 1)
			same(t, "state", f.State(), "")
		}
		d := newDisk(t, 100, junk, "junk")
		d.Fuse(3)
		_, e := firm.Open(d)
		same(t, "not synced", e, api.ErrPower)
		d.Crash(7, 0)
		same(t, "not synced", files(t, d), [2]string{"mark 1\n"})
		open(t, d)
		d.Crash(0, 0)
		same(t, "synced", files(t, d), [2]string{newBooks})
	}
}

// TestOpenErrors: what the disk refuses, Open refuses.
func TestOpenErrors(t *testing.T) {
	d := newDisk(t, 11, "abc", "de")
	f, e := firm.Open(d)
	same(t, "too small", e, api.ErrFull)
	same(t, "too small", f, nil)
	same(t, "cleared before", files(t, d), [2]string{})
	open(t, newDisk(t, 12, "abc", "de"))
	d = newDisk(t, 100, newBooks)
	d.Fuse(0)
	same(t, "off", d.Sync(0), api.ErrPower)
	f, e = firm.Open(d)
	same(t, "off", e, api.ErrPower)
	same(t, "off", f, nil)
}

// full are changes that fill the firm, each in its limits.
func full() []string {
	list := []string{"house a", "house bb", "house c", "house d", "house e", "house f", "house abcdefgh"}
	list = append(list, "street c a", "street a abcdefgh", "close a c", "flue a 12", "flue bb 12", "flue c 9", "flue d 3", "flue e 1")
	for range 4 {
		list = append(list, "permit unlike a a", "permit like bb a", "permit early c d")
	}
	for range 8 {
		list = append(list, "talk a bb", "talk c d", "talk f e", "day")
	}
	for range 21 {
		list = append(list, "day")
	}
	return list
}

// TestWhatCounts: which files count, with what mark, state and end.
func TestWhatCounts(t *testing.T) {
	table := []struct {
		text  string
		mark  int
		state string
		end   int // of the changes; -1: all of it
	}{
		{newBooks, 1, "", -1},
		{"mark 9\ndone\n", 9, "", -1},
		{"mark 10\ndone\n", 10, "", -1},
		{"mark 999999\ndone\n", 999_999, "", -1},
		{"mark 1000000\ndone\n", 0, "", 0},
		{"mark 0\ndone\n", 0, "", 0},
		{"mark 01\ndone\n", 0, "", 0},
		{"mark 000001\ndone\n", 0, "", 0},
		{"mark +1\ndone\n", 0, "", 0},
		{"mark -1\ndone\n", 0, "", 0},
		{"mark 1_0\ndone\n", 0, "", 0},
		{"mark \ndone\n", 0, "", 0},
		{"mark\ndone\n", 0, "", 0},
		{"mark a\ndone\n", 0, "", 0},
		{"mark  1\ndone\n", 0, "", 0},
		{" mark 1\ndone\n", 0, "", 0},
		{"mark 1 \ndone\n", 0, "", 0},
		{"mark 1 2\ndone\n", 0, "", 0},
		{"Mark 1\ndone\n", 0, "", 0},
		{"\nmark 1\ndone\n", 0, "", 0},
		{"mark 1\n\ndone\n", 0, "", 0},
		{"mark 1\r\ndone\r\n", 0, "", 0},
		{"1\ndone\n", 0, "", 0},
		{"house a\ndone\n", 0, "", 0},
		{"done\n", 0, "", 0},
		{"mark 1\n", 0, "", 0},
		{"mark 1", 0, "", 0},
		{"mark 1\ndone", 0, "", 0},
		{"mark 1\n done\n", 0, "", 0},
		{"mark 1\ndone \n", 0, "", 0},
		{"mark 1\ndone 1\n", 0, "", 0},
		{"mark 1done\n", 0, "", 0},
		{"mark 1\nhouse a\n", 0, "", 0},
		{"mark 1\nhouse a\nhouse a\ndone\n", 0, "", 0},
		{"mark 1\nhouse a\ntown\ndone\n", 0, "", 0},
		{"mark 1\nstreet a b\ndone\n", 0, "", 0},
		{"mark 1\nhouse adone\n", 0, "", 0},
		{"mark 1\nmark 2\ndone\n", 0, "", 0},
		{"mark 7\nhouse a\ndone\n", 7, "house a\n", -1},
		{"mark 7\nhouse a\nhouse b\nstreet b a\nclose a b\ndone\n", 7, "house a\nhouse b\n", -1},
		{"mark 7\nhouse a\ndone\nhouse b\n", 7, "house a\nhouse b\n", -1},
		{"mark 7\nhouse a\ndone\nhouse b", 7, "house a\n", 20},
		{"mark 7\nhouse a\ndone\nhouse a\nhouse b\n", 7, "house a\n", 20},
		{"mark 7\nhouse a\ndone\nhouse b\ndone\nhouse c\n", 7, "house a\nhouse b\n", 28},
		{"mark 7\nhouse a\ndone\nmark 8\ndone\n", 7, "house a\n", 20},
		{"mark 7\nhouse a\ndone\nhouse b\nhouse\nhouse c\n", 7, "house a\nhouse b\n", 28},
		{"mark 7\nhouse a\ndone\n\nhouse c\n", 7, "house a\n", 20},
		{"mark 7\nhouse a\ndone\nhouse b\nhouse c\r\n", 7, "house a\nhouse b\n", 28},
		{"mark 7\ndone\n\x00\xff\n", 7, "", 12},
		{"mark 7\ndone\n" + strings.Repeat(" ", 900), 7, "", 12},
	}
	for _, row := range table {
		for _, place := range []int{0, 1} {
			texts := []string{"", ""}
			texts[place] = row.text
			d := newDisk(t, 1000, texts...)
			f := open(t, d)
			same(t, row.text, f.State(), row.state)
			if row.mark == 0 {
				same(t, row.text, f.Mark(), 1)
				same(t, row.text, files(t, d), [2]string{newBooks})
				continue
			}
			if row.end < 0 {
				row.end = len(row.text)
			}
			same(t, row.text, f.Mark(), row.mark)
			texts[place] = row.text[:row.end]
			same(t, row.text, files(t, d), [2]string(texts))
			do(t, f, "house zoe")
			texts[place] += "house zoe\n"
			same(t, row.text, files(t, d), [2]string(texts))
		}
	}
}

// TestFullBooks: a file counts with a state in which nothing more has room, as what comes
// before the done and as what follows it.
func TestFullBooks(t *testing.T) {
	l := newLedger()
	for _, c := range full() {
		same(t, c, l.do(c), api.OK)
	}
	for n := range full() {
		text := "mark 3\n" + ended(full()[:n]...) + "done\n" + ended(full()[n:]...)
		d := newDisk(t, 10_000, "", text)
		f := open(t, d)
		same(t, "state", f.State(), ended(l.dump()...))
		same(t, "mark", f.Mark(), 3)
		same(t, "books", files(t, d), [2]string{"", text})
	}
}

// TestWhichCounts: the greater mark, or file 0; the other file is cleared.
func TestWhichCounts(t *testing.T) {
	old, young := "mark 9\nhouse old\ndone\n", "mark 10\nhouse young\ndone\n"
	table := []struct {
		files [2]string
		which int
	}{
		{[2]string{old, young}, 1}, {[2]string{young, old}, 0},
		{[2]string{old, ""}, 0}, {[2]string{"", old}, 1},
		{[2]string{old, "mark 10\nhouse young\ndone"}, 0}, {[2]string{"mark 10\nhouse young\n", old}, 1},
		{[2]string{young, strings.Replace(old, "9", "10", 1)}, 0}, {[2]string{strings.Replace(old, "9", "10", 1), young}, 0},
		{[2]string{newBooks, newBooks}, 0},
		{[2]string{young + "house a", "mark 999999\nhouse a\nhouse a\ndone\n"}, 0},
		{[2]string{"mark 999999\nx\ndone\n", young + "house a\nmark 11\ndone\n"}, 1},
		{[2]string{old + "house b\nhouse c\nhouse d\n", young}, 1},
	}
	for _, row := range table {
		d := newDisk(t, 1000, row.files[:]...)
		f := open(t, d)
		only := [2]string{}
		only[row.which] = row.files[row.which]
		alone := newDisk(t, 1000, only[:]...)
		g := open(t, alone)
		same(t, "mark", f.Mark(), g.Mark())
		same(t, "state", f.State(), g.State())
		same(t, "files", files(t, d), files(t, alone))
		same(t, "the other one", files(t, d)[1-row.which], "")
		d.Crash(0, 0)
		same(t, "safe", files(t, d), files(t, alone))
	}
}

// TestOpenSteps: the file that counts is cut, if bytes follow its changes, and synced, before
// the other one is cleared, if it has bytes.
func TestOpenSteps(t *testing.T) {
	whole, more := "mark 5\nhouse a\ndone\nhouse b\n", "house"
	for _, place := range []int{0, 1} {
		for _, tail := range []string{"", more} {
			for _, other := range []string{"", newBooks, "junk"} {
				steps := [][2]string{{whole + tail, other}}
				if tail != "" {
					steps = append(steps, [2]string{whole, other})
				}
				steps = append(steps, [2]string{whole, other})
				if other != "" {
					steps = append(steps, [2]string{whole, ""})
				}
				for k, want := range steps {
					given := [2]string{whole + tail, other}
					if place == 1 {
						given[0], given[1], want[0], want[1] = given[1], given[0], want[1], want[0]
					}
					d := newDisk(t, 100, given[:]...)
					d.Fuse(k)
					f, e := firm.Open(d)
					isLast := k == len(steps)-1
					same(t, fmt.Sprint(given, k), e == api.OK, isLast)
					same(t, fmt.Sprint(given, k), f != nil, isLast)
					if isLast {
						e = d.Sync(0) // there are no more steps
					}
					same(t, fmt.Sprint(given, k), e, api.ErrPower)
					d.Crash(0, 0)
					same(t, fmt.Sprint(given, k), files(t, d), want)
				}
			}
		}
	}
}

// TestOpenSyncs: what a file has that counts is safe after Open.
func TestOpenSyncs(t *testing.T) {
	for _, place := range []int{0, 1} {
		d := newDisk(t, 100)
		text := "mark 5\nhouse a\ndone\nhouse b\n"
		same(t, "append", d.Append(place, []byte(text)), api.OK)
		f := open(t, d)
		d.Crash(0, 0)
		same(t, "safe", files(t, d)[place], text)
		same(t, "state", f.State(), "house a\nhouse b\n")
	}
}

// TestOpenAgain: an Open after an Open, of the same disk, changes nothing.
func TestOpenAgain(t *testing.T) {
	for seed := range 20 {
		f, d := newFirm(t)
		l := newLedger()
		for _, c := range someChanges(seed, 7, 40) {
			_, e := f.Do(c)
			same(t, c, e, l.do(c))
		}
		before := files(t, d)
		g := open(t, d)
		same(t, "files", files(t, d), before)
		same(t, "state", g.State(), ended(l.dump()...))
		same(t, "mark", g.Mark(), 1)
		same(t, "before", f.State(), g.State())
	}
}
