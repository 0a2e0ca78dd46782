package like

import "slices"

const (
	variables = 4
	maxNodes  = 2000
	maxDeep   = 40
)

// What a formula says.
const (
	opSame = "="
	opNear = "~"
	opNot  = "!"
	opAnd  = "&"
	opSome = "E"
)

func same(a, b int) Form      { return Form{Op: opSame, A: a, B: b} }
func near(a, b int) Form      { return Form{Op: opNear, A: a, B: b} }
func not(f Form) Form         { return Form{Op: opNot, Kids: []Form{f}} }
func and(f, g Form) Form      { return Form{Op: opAnd, Kids: []Form{f, g}} }
func some(a int, f Form) Form { return Form{Op: opSome, A: a, Kids: []Form{f}} }

// either returns a formula if it is to be true, else that it is not.
func either(f Form, isTrue bool) Form {
	if isTrue {
		return f
	}
	return not(f)
}

// isVariable reports whether a number is a variable.
func isVariable(a int) bool { return a >= 0 && a < variables }

// isFormula reports whether a Form is valid. It stops at what is too large, since a Form may
// be within itself.
func isFormula(f Form) bool {
	nodes := 0
	var isPart func(f Form, deep int) bool
	isPart = func(f Form, deep int) bool {
		nodes++
		if nodes > maxNodes || deep > maxDeep || !f.hasItsFields() {
			return false
		}
		for _, kid := range f.Kids {
			if !isPart(kid, deep+1) {
				return false
			}
		}
		return true
	}
	return isPart(f, 1)
}

// hasItsFields reports whether a Form has the variables and the number of Kids of its Op.
func (f Form) hasItsFields() bool {
	switch f.Op {
	case opSame, opNear:
		return isVariable(f.A) && isVariable(f.B) && len(f.Kids) == 0
	case opNot:
		return f.A == 0 && f.B == 0 && len(f.Kids) == 1
	case opAnd:
		return f.A == 0 && f.B == 0 && len(f.Kids) == 2
	case opSome:
		return isVariable(f.A) && f.B == 0 && len(f.Kids) == 1
	}
	return false
}

// equals reports whether two formulas are the same.
func (f Form) equals(g Form) bool {
	return f.Op == g.Op && f.A == g.A && f.B == g.B && slices.EqualFunc(f.Kids, g.Kids, Form.equals)
}

// depth returns the greatest number of E within each other.
func (f Form) depth() int {
	deepest := 0
	for _, kid := range f.Kids {
		deepest = max(deepest, kid.depth())
	}
	if f.Op == opSome {
		return deepest + 1
	}
	return deepest
}

// isClosed reports whether every variable stands within an E of it, or is in a set of those
// that do already.
func (f Form) isClosed(within int) bool {
	switch f.Op {
	case opSame, opNear:
		return has(within, f.A) && has(within, f.B)
	case opSome:
		return f.Kids[0].isClosed(within | 1<<f.A)
	}
	return !slices.ContainsFunc(f.Kids, func(kid Form) bool { return !kid.isClosed(within) })
}

// truth returns what tells whether a formula is true if the variables are these nodes. What
// an E is found to be is kept: without that, E within E would take too long.
func (t town) truth(f Form) func(at [variables]int) bool {
	switch f.Op {
	case opSame:
		return func(at [variables]int) bool { return at[f.A] == at[f.B] }
	case opNear:
		return func(at [variables]int) bool { return has(t[at[f.A]], at[f.B]) }
	case opNot:
		kid := t.truth(f.Kids[0])
		return func(at [variables]int) bool { return !kid(at) }
	case opAnd:
		first, second := t.truth(f.Kids[0]), t.truth(f.Kids[1])
		return func(at [variables]int) bool { return first(at) && second(at) }
	}
	kid := t.truth(f.Kids[0])
	found := map[[variables]int]bool{}
	return func(at [variables]int) bool {
		at[f.A] = 0 // the E gives its variable other nodes
		isTrue, known := found[at]
		if !known {
			isTrue = t.isTrueOfSome(kid, f.A, at)
			found[at] = isTrue
		}
		return isTrue
	}
}

// isTrueOfSome reports whether there is a node for variable a such that what a formula says
// is true.
func (t town) isTrueOfSome(truth func(at [variables]int) bool, a int, at [variables]int) bool {
	for v := range t {
		at[a] = v
		if truth(at) {
			return true
		}
	}
	return false
}
