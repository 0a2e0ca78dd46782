package firm

import (
	"slices"
	"strconv"
	"strings"
)

const (
	maxName   = 8
	maxDigits = 3
)

// rule is what is done at a line with this first word, and with other words of this shape: h
// stands for the name of a house, n for a number, k for a kind of permit.
type rule[F any] struct {
	first, shape string
	act          F
}

// find returns the rule for a line, and the words behind its first one, or false if there is
// none. What is no line has a word that is empty, too long or of other bytes: there is no
// rule for that either.
func find[F any](line string, rules []rule[F]) (rule[F], []string, bool) {
	words := strings.Split(line, " ")
	for _, r := range rules {
		if r.first == words[0] && haveShape(words[1:], r.shape) {
			return r, words[1:], true
		}
	}
	return rule[F]{}, nil, false
}

// haveShape reports whether words are what a shape says.
func haveShape(words []string, shape string) bool {
	if len(words) != len(shape) {
		return false
	}
	for i, word := range words {
		if !isOf(word, shape[i]) {
			return false
		}
	}
	return true
}

// isOf reports whether a word is what a letter of a shape stands for.
func isOf(word string, letter byte) bool {
	switch letter {
	case 'h':
		return isName(word)
	case 'n':
		return isNumber(word, maxDigits)
	}
	return slices.Contains(kinds(), word)
}

// isName reports whether a word is a name.
func isName(word string) bool {
	return len(word) >= 1 && len(word) <= maxName && strings.Trim(word, "abcdefghijklmnopqrstuvwxyz") == ""
}

// isNumber reports whether a word is a number of at most so many digits: no other one has a
// zero, or a sign, before it.
func isNumber(word string, digits int) bool {
	n := number(word)
	return len(word) <= digits && n >= 0 && strconv.Itoa(n) == word
}

// number returns the number that a word is.
func number(word string) int {
	n, _ := strconv.Atoi(word)
	return n
}

// joined returns the line of some words.
func joined(words ...string) string { return strings.Join(words, " ") }

// ended returns lines, each with its end.
func ended(lines ...string) string {
	var b strings.Builder
	for _, l := range lines {
		b.WriteString(l)
		b.WriteByte('\n')
	}
	return b.String()
}

// texts returns numbers as words.
func texts(numbers ...int) []string {
	var words []string
	for _, n := range numbers {
		words = append(words, strconv.Itoa(n))
	}
	return words
}
