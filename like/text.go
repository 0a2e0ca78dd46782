package like

import "lampblack/api"

const maxBytes = 20000

// name returns the letter of a variable.
func name(a int) string { return "abcd"[a : a+1] }

// text returns a formula as a string.
func (f Form) text() string {
	switch f.Op {
	case opNot:
		return "!" + f.Kids[0].text()
	case opAnd:
		return "(" + f.Kids[0].text() + "&" + f.Kids[1].text() + ")"
	case opSome:
		return "E" + name(f.A) + " " + f.Kids[0].text()
	}
	return name(f.A) + f.Op + name(f.B)
}

// parse returns the formula of a string, or ErrForm if there is none.
func parse(s string) (f Form, e api.Errno) {
	defer func() {
		if fault, ok := recover().(api.Errno); ok {
			f, e = Form{}, fault
		}
	}()
	r := reader{s}
	f = r.formula()
	if r.rest != "" || !isFormula(f) {
		panic(api.ErrForm)
	}
	return f, api.OK
}

// reader reads formulas from what is left of a string. Where there is none, its methods
// panic with ErrForm.
type reader struct{ rest string }

// next reads a byte.
func (r *reader) next() byte {
	if r.rest == "" {
		panic(api.ErrForm)
	}
	c := r.rest[0]
	r.rest = r.rest[1:]
	return c
}

// take reads a byte that has to be there.
func (r *reader) take(c byte) {
	if r.next() != c {
		panic(api.ErrForm)
	}
}

// variable returns the variable of a letter.
func variable(letter byte) int {
	a := int(letter) - 'a'
	if !isVariable(a) {
		panic(api.ErrForm)
	}
	return a
}

// formula reads a formula, which may be too large.
func (r *reader) formula() Form {
	switch c := r.next(); c {
	case '!':
		return not(r.formula())
	case '(':
		f := r.formula()
		r.take('&')
		g := r.formula()
		r.take(')')
		return and(f, g)
	case 'E':
		a := variable(r.next())
		r.take(' ')
		return some(a, r.formula())
	default:
		return r.atom(variable(c))
	}
}

// atom reads the rest of a formula that begins with a variable.
func (r *reader) atom(a int) Form {
	op := r.next()
	b := variable(r.next())
	switch op {
	case '=':
		return same(a, b)
	case '~':
		return near(a, b)
	}
	panic(api.ErrForm)
}
