package firm_test

import (
	"fmt"
	"regexp"
	"slices"
	"strconv"
	"strings"
	"testing"

	"lampblack/api"
	"lampblack/chase"
	"lampblack/firm"
	"lampblack/like"
	"lampblack/minor"
	"lampblack/rounds"
	"lampblack/sweep"
	"lampblack/width"
)

// ledger is the state by the definitions, with names instead of numbers.
type ledger struct {
	day     int
	houses  []string
	streets map[[2]string]bool // each one both ways
	flues   []string           // the houses
	days    []int              // of the flues
	permits [][]string         // kind and houses
	talks   [][]string         // houses and day
}

func newLedger() *ledger { return &ledger{day: 1, streets: map[[2]string]bool{}} }

const (
	aName   = ` ([a-z]{1,8})`
	aNumber = ` (0|[1-9][0-9]{0,2})`
)

// forms are the forms of changes and questions.
var forms = regexp.MustCompile(`^(?:(house|news)` + aName + `|(street|close|talk|twins)` + aName + aName + `|(flue)` + aName + aNumber +
	`|(colours)` + aNumber + `|(permit) (unlike|like|early)` + aName + aName + `|(day|town|cat|width|guards|spare|outer|round|halves))$`)

// words returns the words of a change or question, or none.
func words(line string) []string {
	found := forms.FindStringSubmatch(line)
	if found == nil {
		return nil
	}
	return slices.DeleteFunc(found[1:], func(w string) bool { return w == "" })
}

func (l *ledger) has(name string) bool { return slices.Contains(l.houses, name) }

func value(word string) int {
	n, e := strconv.Atoi(word)
	if e != nil {
		panic(e)
	}
	return n
}

// do makes a change.
func (l *ledger) do(line string) api.Errno {
	w := words(line)
	if w == nil {
		return api.ErrForm
	}
	switch w[0] {
	case "house":
		return l.doHouse(w[1])
	case "street", "close", "talk":
		return l.doPair(w[0], w[1], w[2])
	case "flue":
		return l.doFlue(w[1], value(w[2]))
	case "permit":
		if !l.has(w[2]) || !l.has(w[3]) {
			return api.ErrNone
		}
		if len(l.permits) >= 12 {
			return api.ErrFull
		}
		l.permits = append(l.permits, w[1:])
		return api.OK
	case "day":
		if l.day >= 30 {
			return api.ErrFull
		}
		l.day++
		return api.OK
	}
	return api.ErrForm
}

func (l *ledger) doHouse(name string) api.Errno {
	if l.has(name) {
		return api.ErrState
	}
	if len(l.houses) >= 7 {
		return api.ErrFull
	}
	l.houses = append(l.houses, name)
	return api.OK
}

func (l *ledger) doPair(what, h, k string) api.Errno {
	if !l.has(h) || !l.has(k) {
		return api.ErrNone
	}
	isStreet := l.streets[[2]string{h, k}]
	switch what {
	case "street":
		if h == k || isStreet {
			return api.ErrState
		}
		l.streets[[2]string{h, k}], l.streets[[2]string{k, h}] = true, true
	case "close":
		if !isStreet {
			return api.ErrNone
		}
		delete(l.streets, [2]string{h, k})
		delete(l.streets, [2]string{k, h})
	case "talk":
		for _, x := range l.talks {
			if value(x[2]) == l.day && (slices.Contains(x[:2], h) || slices.Contains(x[:2], k)) {
				return api.ErrState
			}
		}
		if h == k {
			return api.ErrState
		}
		if len(l.talks) >= 24 {
			return api.ErrFull
		}
		l.talks = append(l.talks, []string{h, k, fmt.Sprint(l.day)})
	}
	return api.OK
}

func (l *ledger) doFlue(h string, days int) api.Errno {
	if !l.has(h) {
		return api.ErrNone
	}
	if slices.Contains(l.flues, h) {
		return api.ErrState
	}
	if days < 1 || days > 12 {
		return api.ErrArg
	}
	product := days
	for _, d := range l.days {
		product *= d
	}
	if len(l.flues) >= 5 || product > 4000 {
		return api.ErrFull
	}
	l.flues, l.days = append(l.flues, h), append(l.days, days)
	return api.OK
}

// dump returns the changes that make the state.
func (l *ledger) dump() []string {
	var list []string
	for _, h := range l.houses {
		list = append(list, "house "+h)
	}
	for i, h := range l.houses {
		for _, k := range l.houses[i+1:] {
			if l.streets[[2]string{h, k}] {
				list = append(list, "street "+h+" "+k)
			}
		}
	}
	for i, h := range l.flues {
		list = append(list, fmt.Sprint("flue ", h, " ", l.days[i]))
	}
	for _, p := range l.permits {
		list = append(list, "permit "+strings.Join(p, " "))
	}
	for day := 1; ; day++ {
		for _, x := range l.talks {
			if x[2] == fmt.Sprint(day) {
				list = append(list, "talk "+x[0]+" "+x[1])
			}
		}
		if day == l.day {
			return list
		}
		list = append(list, "day")
	}
}

// graph returns the town.
func (l *ledger) graph() api.Graph {
	g := make(api.Graph, len(l.houses))
	for i, h := range l.houses {
		for j, k := range l.houses {
			if l.streets[[2]string{h, k}] {
				g[i] |= 1 << j
			}
		}
	}
	return g
}

// around returns the houses to which a way of streets leads, and the house itself. One
// street is taken for closed.
func (l *ledger) around(house string, closed [2]string) map[string]bool {
	found := map[string]bool{house: true}
	for range l.houses {
		for s := range l.streets {
			if s != closed && (s != [2]string{closed[1], closed[0]}) && found[s[0]] {
				found[s[1]] = true
			}
		}
	}
	return found
}

// parts returns the number of connected parts of the town.
func (l *ledger) parts() int {
	n, seen := 0, map[string]bool{}
	for _, h := range l.houses {
		if seen[h] {
			continue
		}
		n++
		for k := range l.around(h, [2]string{}) {
			seen[k] = true
		}
	}
	return n
}

// sorted returns the names of the houses, rising.
func (l *ledger) sorted() []string { return slices.Sorted(slices.Values(l.houses)) }

// ask answers a question: by the definitions, or by the other layers where a question names
// a number that they find.
func (l *ledger) ask(line string) (string, api.Errno) {
	w := words(line)
	if w == nil {
		return "", api.ErrForm
	}
	switch w[0] {
	case "town":
		for _, h := range l.sorted() {
			line += " " + h + ":"
			comma := ""
			for _, k := range l.sorted() {
				if l.streets[[2]string{h, k}] {
					line += comma + k
					comma = ","
				}
			}
		}
		return line, api.OK
	case "spare":
		var list []string
		for s := range l.streets {
			if s[0] < s[1] && !l.around(s[0], s)[s[1]] {
				list = append(list, " "+s[0]+"-"+s[1])
			}
		}
		slices.Sort(list)
		return line + strings.Join(list, ""), api.OK
	case "round":
		return l.askRound()
	case "news":
		return l.askNews(w[1])
	case "twins":
		return l.askTwins(w[1], w[2])
	case "colours":
		if value(w[1]) > 6 {
			return "", api.ErrArg
		}
	case "cat", "width", "guards", "outer", "halves":
	default:
		return "", api.ErrForm
	}
	if len(l.houses) > 0 {
		return l.askHouses(w)
	}
	if w[0] == "cat" {
		return "", api.ErrState
	}
	return "", api.ErrNone
}

// askHouses answers a question that needs a house.
func (l *ledger) askHouses(w []string) (string, api.Errno) {
	g := l.graph()
	switch w[0] {
	case "cat":
		if l.parts() != 1 {
			return "", api.ErrState
		}
		for k := 1; ; k++ {
			if n, e := chase.Rounds(g, k); e == api.OK {
				return fmt.Sprint("cat ", k, " ", n), api.OK
			}
		}
	case "width":
		n, e := width.Width(g)
		return fmt.Sprint("width ", n), e
	case "guards":
		n, e := sweep.Least(g)
		return fmt.Sprint("guards ", n), e
	case "outer":
		if _, e := minor.Outer(g); e != api.OK {
			return "outer no", api.OK
		}
		return "outer yes", api.OK
	case "colours":
		return fmt.Sprint("colours ", colourings(g, nil, value(w[1]))), api.OK
	}
	return l.askHalves()
}

// colourings counts the ways to go on with the colours that the first nodes have.
func colourings(g api.Graph, given []int, colours int) int {
	v, n := len(given), 0
	if v == len(g) {
		return 1
	}
	for c := range colours {
		differs := true
		for u, other := range given {
			differs = differs && (g[v]>>u&1 == 0 || other != c)
		}
		if differs {
			n += colourings(g, append(slices.Clone(given), c), colours)
		}
	}
	return n
}

func (l *ledger) askRound() (string, api.Errno) {
	if len(l.days) == 0 {
		return "", api.ErrNone
	}
	if _, e := rounds.Round(l.days); e == api.OK {
		return "round yes", api.OK
	}
	life, e := rounds.Life(l.days, l.days)
	return fmt.Sprint("round ", life), e
}

// askHalves tries everything: a bit of a number is 1 if a house is swept in the afternoon.
func (l *ledger) askHalves() (string, api.Errno) {
	for number := range 1 << len(l.houses) {
		later := map[string]bool{}
		for i, h := range l.houses {
			later[h] = number>>i&1 == 1
		}
		kept := true
		for _, p := range l.permits {
			a, b := later[p[1]], later[p[2]]
			kept = kept && map[string]bool{"unlike": a != b, "like": a == b, "early": !a || !b}[p[0]]
		}
		if !kept {
			continue
		}
		said := "halves"
		for _, h := range l.sorted() {
			said += " " + h + ":" + map[bool]string{false: "am", true: "pm"}[later[h]]
		}
		return said, api.OK
	}
	return "", api.ErrState
}

// askNews makes the talks one after the other: on one day no house talks twice.
func (l *ledger) askNews(house string) (string, api.Errno) {
	if !l.has(house) {
		return "", api.ErrNone
	}
	knows := map[string]bool{house: true}
	for _, x := range l.talks {
		either := knows[x[0]] || knows[x[1]]
		knows[x[0]], knows[x[1]] = either, either
	}
	said := "news"
	for _, h := range l.sorted() {
		if knows[h] {
			said += " " + h
		}
	}
	return said, api.OK
}

func (l *ledger) askTwins(h, k string) (string, api.Errno) {
	if !l.has(h) || !l.has(k) {
		return "", api.ErrNone
	}
	if len(l.houses) > 6 {
		return "", api.ErrSize
	}
	colours, e := refined(l.graph())
	if colours[slices.Index(l.houses, h)] == colours[slices.Index(l.houses, k)] {
		return "twins yes", e
	}
	return "twins no", e
}

func refined(g api.Graph) ([]int, api.Errno) {
	colours, _, e := like.Refine(g)
	return colours, e
}

// dice are numbers that look like chance and are always the same.
type dice uint64

func (d *dice) below(n int) int {
	*d = *d*6364136223846793005 + 1442695040888963407
	return int(uint64(*d) >> 33 % uint64(n))
}

func (d *dice) of(list ...string) string { return list[d.below(len(list))] }

// names are those of lines that look like chance: one more than there can be houses. Their
// order is not that in which most houses come.
var names = []string{"mo", "ada", "cy", "zoe", "b", "adam", "housewif", "day"}

// changeOf returns a change that may have an error.
func changeOf(d *dice) string {
	h, k := d.of(names...), d.of(names...)
	switch d.below(16) {
	case 0, 1:
		return "house " + h
	case 2, 3, 4, 5, 6:
		return "street " + h + " " + k
	case 7:
		return "close " + h + " " + k
	case 8, 9:
		return fmt.Sprint("flue ", h, " ", d.below(14))
	case 10:
		return "permit " + d.of("unlike", "like", "early") + " " + h + " " + k
	case 11, 12, 13:
		return "talk " + h + " " + k
	case 14:
		return "day"
	}
	return d.of("house", "house Ada", "street "+h, "flue "+h+" 01", "permit "+h+" "+k, "permit late "+h+" "+k, "day 2", "", "town", " day", "done", "mark 2")
}

// asked returns all questions about a state.
func asked(l *ledger) []string {
	list := []string{"town", "cat", "width", "guards", "spare", "outer", "round", "halves", "news nobody", "twins nobody nobody"}
	for n := range 8 {
		list = append(list, fmt.Sprint("colours ", n))
	}
	for _, h := range l.houses {
		list = append(list, "news "+h, "twins "+h+" nobody", "twins nobody "+h)
		for _, k := range l.houses {
			list = append(list, "twins "+h+" "+k)
		}
	}
	return list
}

// spread returns the first n of changes of which the most have no error, for a firm with so
// many houses.
func someChanges(seed, houses, n int) []string {
	d := dice(seed)
	l := newLedger()
	var list []string
	for _, h := range names[:houses] {
		list = append(list, "house "+h)
		l.do(list[len(list)-1])
	}
	for len(list) < houses+n {
		line := changeOf(&d)
		if !strings.HasPrefix(line, "house") && (l.do(line) == api.OK || d.below(12) == 0) {
			list = append(list, line)
		}
	}
	return list
}

// newDisk returns a disk with these files, all bytes of which are safe.
func newDisk(t *testing.T, size int, files ...string) *firm.Disk {
	t.Helper()
	d, e := firm.NewDisk(size)
	same(t, "NewDisk", e, api.OK)
	for f, text := range files {
		same(t, "Append", d.Append(f, []byte(text)), api.OK)
		same(t, "Sync", d.Sync(f), api.OK)
	}
	return d
}

// open opens the firm of a disk.
func open(t *testing.T, d *firm.Disk) *firm.Firm {
	t.Helper()
	f, e := firm.Open(d)
	same(t, "Open", e, api.OK)
	return f
}

// newFirm returns a firm that did these changes, and its disk.
func newFirm(t *testing.T, changes ...string) (*firm.Firm, *firm.Disk) {
	t.Helper()
	d := newDisk(t, 1_000_000)
	f := open(t, d)
	do(t, f, changes...)
	return f, d
}

// do does changes that have no error.
func do(t *testing.T, f *firm.Firm, changes ...string) {
	t.Helper()
	for _, c := range changes {
		first, _, _ := strings.Cut(c, " ")
		reply, e := f.Do(c)
		same(t, c, fmt.Sprint(reply, " ", e), first+" 0")
	}
}

// refuse does a change that has an error.
func refuse(t *testing.T, f *firm.Firm, change string, want api.Errno) {
	t.Helper()
	before := f.State()
	reply, e := f.Do(change)
	same(t, change, e, want)
	same(t, change, reply, "")
	same(t, change+": State", f.State(), before)
}

// replies compares the reply to a question.
func replies(t *testing.T, f *firm.Firm, question, want string) {
	t.Helper()
	reply, e := f.Ask(question)
	same(t, question, reply, want)
	same(t, question, e, api.OK)
}

// fails compares the error of a question.
func fails(t *testing.T, f *firm.Firm, question string, want api.Errno) {
	t.Helper()
	reply, e := f.Ask(question)
	same(t, question, e, want)
	same(t, question, reply, "")
}

// files returns the bytes of both files.
func files(t *testing.T, d *firm.Disk) [2]string {
	t.Helper()
	var list [2]string
	for f := range list {
		b, e := d.Read(f)
		same(t, "Read", e, api.OK)
		list[f] = string(b)
	}
	return list
}

// ended returns lines, each with a byte 10.
func ended(lines ...string) string {
	text := ""
	for _, l := range lines {
		text += l + "\n"
	}
	return text
}

func same[T comparable](t *testing.T, what string, got, want T) {
	t.Helper()
	if got != want {
		t.Errorf("%s: %#v instead of %#v", what, got, want)
	}
}
