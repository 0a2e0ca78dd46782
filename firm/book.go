package firm

import (
	"strconv"
	"strings"

	"lampblack/api"
)

const (
	maxMark       = 999_999
	maxMarkDigits = 6
)

// book is what a file that counts says.
type book struct {
	mark  int
	state *state
	end   int // of its changes: how many bytes come before what follows them
}

// readBook returns what a file says, or false if it does not count.
func readBook(text string) (book, bool) {
	first, rest, _ := strings.Cut(text, "\n")
	mark, isMark := readMark(first)
	if !isMark {
		return book{}, false
	}
	s := newState()
	rest, isDone := strings.CutPrefix(s.follow(rest), "done\n")
	if !isDone {
		return book{}, false
	}
	rest = s.follow(rest)
	return book{mark, s, len(text) - len(rest)}, true
}

// readMark returns the number of a mark, or false if a line is none.
func readMark(line string) (int, bool) {
	word, ok := strings.CutPrefix(line, "mark ")
	n := number(word)
	return n, ok && isNumber(word, maxMarkDigits) && n > 0
}

// follow makes the changes of the lines with which a text begins, as long as they have no
// error, and returns the rest of it.
func (s *state) follow(text string) string {
	for {
		line, rest, isEnded := strings.Cut(text, "\n")
		if !isEnded {
			return text
		}
		if _, e := s.change(line); e != api.OK {
			return text
		}
		text = rest
	}
}

// begin returns the lines with which a file begins that counts.
func begin(mark int, s *state) []string {
	l := append([]string{joined("mark", strconv.Itoa(mark))}, s.dump()...)
	return append(l, "done")
}
