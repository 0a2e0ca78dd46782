package firm_test

import (
	"fmt"
	"math"
	"testing"

	"lampblack/api"
	"lampblack/firm"
)

func TestNewDisk(t *testing.T) {
	for _, size := range []int{0, -1, 1_000_001, math.MinInt, math.MaxInt} {
		d, e := firm.NewDisk(size)
		same(t, fmt.Sprint(size), e, api.ErrArg)
		same(t, fmt.Sprint(size), d, nil)
	}
	for _, size := range []int{1, 2, 1_000_000} {
		d := newDisk(t, size)
		same(t, "new", files(t, d), [2]string{})
		same(t, "one byte more", d.Append(0, make([]byte, size+1)), api.ErrFull)
		same(t, "all bytes", d.Append(1, make([]byte, size)), api.OK)
	}
}

// operations are all that a fuse counts, without an error on a disk with 3 bytes in file 0.
func operations(d *firm.Disk) map[string]func() api.Errno {
	return map[string]func() api.Errno{
		"append":         func() api.Errno { return d.Append(1, []byte("x")) },
		"append nothing": func() api.Errno { return d.Append(0, nil) },
		"clear":          func() api.Errno { return d.Clear(0) },
		"clear nothing":  func() api.Errno { return d.Clear(1) },
		"cut":            func() api.Errno { return d.Cut(0, 1) },
		"cut nothing":    func() api.Errno { return d.Cut(0, 3) },
		"sync":           func() api.Errno { return d.Sync(0) },
		"sync nothing":   func() api.Errno { return d.Sync(1) },
	}
}

func TestFuse(t *testing.T) {
	for name := range operations(nil) {
		for _, k := range []int{0, 1, 2, 5} {
			d := newDisk(t, 100, "abc")
			d.Fuse(k)
			for range k {
				same(t, "before "+name, d.Sync(0), api.OK)
			}
			before := files(t, d)
			same(t, name, operations(d)[name](), api.ErrPower)
			_, e := d.Read(0)
			same(t, "Read", e, api.ErrPower)
			for other, operation := range operations(d) {
				same(t, name+", "+other, operation(), api.ErrPower)
			}
			d.Crash(0, 0)
			same(t, name, files(t, d), before)
		}
		d := newDisk(t, 100, "abc")
		d.Fuse(1)
		same(t, name, operations(d)[name](), api.OK)
		same(t, "after "+name, d.Sync(0), api.ErrPower)
	}
}

// TestNoFuse: what has another error, and what is no operation, takes nothing of a fuse.
func TestNoFuse(t *testing.T) {
	d := newDisk(t, 10, "abc")
	d.Fuse(1)
	for range 3 {
		same(t, "append", d.Append(2, nil), api.ErrArg)
		same(t, "append", d.Append(0, make([]byte, 8)), api.ErrFull)
		same(t, "clear", d.Clear(-1), api.ErrArg)
		same(t, "cut", d.Cut(0, 4), api.ErrArg)
		same(t, "sync", d.Sync(2), api.ErrArg)
		_, e := d.Read(2)
		same(t, "read", e, api.ErrArg)
		same(t, "files", files(t, d), [2]string{"abc"})
	}
	same(t, "sync", d.Sync(0), api.OK)
	d.Fuse(-1)
	same(t, "no fuse", d.Sync(0), api.OK)
	d.Fuse(0)
	d.Fuse(math.MinInt)
	same(t, "no fuse", d.Sync(0), api.OK)
	d.Fuse(math.MaxInt)
	same(t, "a long fuse", d.Sync(0), api.OK)
	d.Fuse(0)
	same(t, "off", d.Sync(0), api.ErrPower)
	for _, k := range []int{-1, 0, 5} {
		d.Fuse(k)
		same(t, "still off", d.Sync(0), api.ErrPower)
	}
	d.Crash(0, 0)
	for range 9 {
		same(t, "no fuse after a Crash", d.Sync(0), api.OK)
	}
	d.Fuse(0)
	d.Crash(0, 0)
	same(t, "no fuse after a Crash with the power on", d.Sync(0), api.OK)
}

// TestDiskErrors: the first error listed is returned, also while the power is off.
func TestDiskErrors(t *testing.T) {
	for _, off := range []bool{false, true} {
		d := newDisk(t, 10, "abc", "de")
		good := api.OK
		if off {
			d.Fuse(0)
			d.Sync(0)
			good = api.ErrPower
		}
		for _, f := range []int{-1, 2, math.MinInt, math.MaxInt} {
			same(t, "append", d.Append(f, make([]byte, 11)), api.ErrArg)
			same(t, "clear", d.Clear(f), api.ErrArg)
			same(t, "cut", d.Cut(f, 0), api.ErrArg)
			same(t, "sync", d.Sync(f), api.ErrArg)
			b, e := d.Read(f)
			same(t, "read", e, api.ErrArg)
			same(t, "read", len(b), 0)
		}
		for _, n := range []int{-1, 4, math.MinInt, math.MaxInt} {
			same(t, "cut", d.Cut(0, n), api.ErrArg)
		}
		same(t, "cut", d.Cut(1, 3), api.ErrArg)
		same(t, "append", d.Append(0, make([]byte, 6)), api.ErrFull)
		same(t, "append", d.Append(0, make([]byte, 5)), good)
		same(t, "cut", d.Cut(0, 3), good)
		same(t, "clear", d.Clear(1), good)
		b, e := d.Read(0)
		same(t, "read", e, good)
		same(t, "read", string(b), map[bool]string{false: "abc", true: ""}[off])
	}
}

func TestCrash(t *testing.T) {
	for _, a := range []int{math.MinInt, -1, 0, 1, 2, 3, math.MaxInt} {
		for _, b := range []int{math.MinInt, -1, 0, 1, 2, 3, math.MaxInt} {
			for _, off := range []bool{false, true} {
				d := newDisk(t, 100, "abc", "de")
				same(t, "append", d.Append(0, []byte("fg")), api.OK)
				same(t, "append", d.Append(1, []byte("hi")), api.OK)
				if off {
					d.Fuse(0)
					same(t, "off", d.Sync(0), api.ErrPower)
				}
				d.Crash(a, b)
				want := [2]string{"abc" + "fg"[:min(max(a, 0), 2)], "de" + "hi"[:min(max(b, 0), 2)]}
				same(t, "crash", files(t, d), want)
				d.Crash(0, 0)
				same(t, "all is safe", files(t, d), want)
			}
		}
	}
}

// TestSafe: a Cut and a Clear make safe what remains, a Sync all, of that file alone.
func TestSafe(t *testing.T) {
	table := map[string]struct {
		do   func(d *firm.Disk) api.Errno
		want [2]string
	}{
		"nothing":    {func(d *firm.Disk) api.Errno { return api.OK }, [2]string{"ab", "c"}},
		"sync 0":     {func(d *firm.Disk) api.Errno { return d.Sync(0) }, [2]string{"abdef", "c"}},
		"sync 1":     {func(d *firm.Disk) api.Errno { return d.Sync(1) }, [2]string{"ab", "cgh"}},
		"cut to all": {func(d *firm.Disk) api.Errno { return d.Cut(0, 5) }, [2]string{"abdef", "c"}},
		"cut more":   {func(d *firm.Disk) api.Errno { return d.Cut(0, 4) }, [2]string{"abde", "c"}},
		"cut safe":   {func(d *firm.Disk) api.Errno { return d.Cut(0, 1) }, [2]string{"a", "c"}},
		"cut 1":      {func(d *firm.Disk) api.Errno { return d.Cut(1, 2) }, [2]string{"ab", "cg"}},
		"clear 0":    {func(d *firm.Disk) api.Errno { return d.Clear(0) }, [2]string{"", "c"}},
		"clear 1":    {func(d *firm.Disk) api.Errno { return d.Clear(1) }, [2]string{"ab", ""}},
		"cut, append": {func(d *firm.Disk) api.Errno { d.Cut(0, 1); return d.Append(0, []byte("ij")) },
			[2]string{"a", "c"}},
	}
	for name, row := range table {
		d := newDisk(t, 100, "ab", "c")
		same(t, name, d.Append(0, []byte("def")), api.OK)
		same(t, name, d.Append(1, []byte("gh")), api.OK)
		same(t, name, files(t, d), [2]string{"abdef", "cgh"})
		same(t, name, row.do(d), api.OK)
		d.Crash(0, 0)
		same(t, name, files(t, d), row.want)
	}
}

// tape is a file in which each byte is marked as safe or not.
type tape struct {
	bytes string
	safe  []bool
}

// keep keeps n of the bytes that are not safe.
func (f *tape) keep(n int) {
	for i := range f.bytes {
		if !f.safe[i] && n <= 0 {
			f.bytes, f.safe = f.bytes[:i], f.safe[:i]
			return
		}
		if !f.safe[i] {
			f.safe[i] = true
			n--
		}
	}
}

// cut keeps the first n bytes.
func (f *tape) cut(n int) {
	f.bytes, f.safe = f.bytes[:n], f.safe[:n]
	f.keep(n)
}

// rack is a disk by the definitions.
type rack struct {
	size  int
	tapes [2]tape
	fuse  int
	off   bool
}

// operate does an operation that has an error, or none, before ErrPower.
func (r *rack) operate(e api.Errno, act func()) api.Errno {
	if e != api.OK {
		return e
	}
	r.off = r.off || r.fuse == 0
	if r.off {
		return api.ErrPower
	}
	r.fuse--
	act()
	return api.OK
}

func (r *rack) write(f int, text string) api.Errno {
	e := api.OK
	if len(r.tapes[0].bytes)+len(r.tapes[1].bytes)+len(text) > r.size {
		e = api.ErrFull
	}
	return r.operate(e, func() {
		r.tapes[f].bytes += text
		r.tapes[f].safe = append(r.tapes[f].safe, make([]bool, len(text))...)
	})
}

func (r *rack) cut(f, n int) api.Errno {
	e := api.OK
	if n < 0 || n > len(r.tapes[f].bytes) {
		e = api.ErrArg
	}
	return r.operate(e, func() { r.tapes[f].cut(n) })
}

// both does the same to a disk and to a rack, and returns the results.
func both(d *firm.Disk, r *rack, what, f, n, m int) (got, want api.Errno) {
	text := "abcdefghi"[:max(n, 0)]
	switch what {
	case 0, 1, 2:
		return d.Append(f, []byte(text)), r.write(f, text)
	case 3:
		return d.Clear(f), r.cut(f, 0)
	case 4:
		return d.Cut(f, n), r.cut(f, n)
	case 5:
		return d.Sync(f), r.operate(api.OK, func() { r.tapes[f].keep(r.size) })
	case 6:
		d.Fuse(n)
		if !r.off {
			r.fuse = n
		}
	case 7:
		d.Crash(n, m)
		r.tapes[0].keep(n)
		r.tapes[1].keep(m)
		r.off, r.fuse = false, -1
	}
	return api.OK, api.OK
}

// TestDiskMany compares a disk with a rack.
func TestDiskMany(t *testing.T) {
	chance := dice(3)
	for range 500 {
		r := &rack{size: 1 + chance.below(40), fuse: -1}
		d := newDisk(t, r.size)
		for range 60 {
			what, f, n, m := chance.below(8), chance.below(2), chance.below(9)-1, chance.below(9)-1
			got, want := both(d, r, what, f, n, m)
			b, e := d.Read(f)
			text, off := r.tapes[f].bytes, api.OK
			if r.off {
				text, off = "", api.ErrPower
			}
			if got != want || e != off || string(b) != text {
				t.Fatal(what, f, n, m, got, want, e, off, string(b), text)
			}
		}
	}
}

// TestDiskMemory: a disk shares no memory with what it is given and gives.
func TestDiskMemory(t *testing.T) {
	d := newDisk(t, 100)
	given := []byte("abc")
	same(t, "append", d.Append(0, given), api.OK)
	clear(given)
	same(t, "changed", files(t, d)[0], "abc")
	b, _ := d.Read(0)
	clear(b[:cap(b)])
	same(t, "changed", files(t, d)[0], "abc")
	same(t, "append", d.Append(0, []byte("def")), api.OK)
	_ = append(b, "xyz"...)
	same(t, "longer", files(t, d)[0], "abcdef")
	b, _ = d.Read(0)
	same(t, "cut", d.Cut(0, 1), api.OK)
	same(t, "append", d.Append(0, []byte("12")), api.OK)
	same(t, "what was read", string(b), "abcdef")
	same(t, "after a Cut", files(t, d)[0], "a12")
	roomy := []byte("345")
	same(t, "append", d.Append(0, roomy[:1]), api.OK)
	same(t, "behind an argument", string(roomy), "345")
}

// TestDiskUnmade: what NewDisk did not return has ErrNil before all other errors.
func TestDiskUnmade(t *testing.T) {
	made := newDisk(t, 5, "abc")
	copied := *made
	overwritten := newDisk(t, 5)
	*overwritten = *made
	for name, d := range map[string]*firm.Disk{"nil": nil, "empty": {}, "new": new(firm.Disk), "copied": &copied, "overwritten": overwritten} {
		for _, f := range []int{0, 1, 2, -1} {
			same(t, name, d.Append(f, make([]byte, 9)), api.ErrNil)
			same(t, name, d.Clear(f), api.ErrNil)
			same(t, name, d.Cut(f, -1), api.ErrNil)
			same(t, name, d.Sync(f), api.ErrNil)
			b, e := d.Read(f)
			same(t, name, e, api.ErrNil)
			same(t, name, len(b), 0)
		}
		d.Fuse(0)
		d.Crash(1, 1)
		same(t, name, d.Sync(0), api.ErrNil)
		f, e := firm.Open(d)
		same(t, name, e, api.ErrNil)
		same(t, name, f, nil)
	}
	same(t, "made", files(t, made), [2]string{"abc"})
}
