package grammar

import (
	"hornbook/api"
	"hornbook/base"
)

// mostCalled is how many Args `call` may have.
const mostCalled = 8

// form: which line of the document's table a body is of.
type form int

const (
	number form = iota // of none
	unknown
	sequence
	choice
	negation
	words
	block
	cut
	called
	other
)

// formOf goes by the body's top alone: words may turn out to be no list.
func formOf(t api.Term) form {
	switch {
	case t.Kind == api.Int:
		return number
	case t.Kind == api.Var:
		return unknown
	case isOf(t, ",", 2), isOf(t, "->", 2):
		return sequence
	case isOf(t, ";", 2):
		return choice
	case isOf(t, "\\+", 1):
		return negation
	case isOf(t, "[]", 0), isOf(t, ".", 2):
		return words
	case isOf(t, "{}", 0), isOf(t, "{}", 1):
		return block
	case isOf(t, "!", 0):
		return cut
	case t.Name == "call" && len(t.Args) > 0:
		return called
	}
	return other
}

// checkBody looks for errors ahead of all writing, as goals may be far greater than the body is: each of its parts
// may have the terms between which it is. It tells how many new variables the goal will have.
func checkBody(body api.Term) (news int64, err api.Errno) {
	left := []api.Term{body}
	for len(left) > 0 {
		t := left[len(left)-1]
		left = left[:len(left)-1]
		switch formOf(t) {
		case sequence:
			news++
			left = append(left, t.Args[1], t.Args[0])
		case choice:
			left = append(left, t.Args[1], t.Args[0])
		case negation:
			news++
			left = append(left, t.Args[0])
		default:
			if err := checkPart(t); err != api.OK {
				return 0, err
			}
		}
	}
	return news, api.OK
}

// checkPart is of a body that has no bodies in it.
func checkPart(t api.Term) api.Errno {
	switch formOf(t) {
	case number:
		return api.ErrKind
	case words:
		if !isList(t) {
			return api.ErrKind
		}
	case block:
		if !haveBodies(t.Args) {
			return api.ErrKind
		}
	case called:
		if len(t.Args)+2 > mostCalled {
			return api.ErrLarge
		}
	case other:
		return checkExtended(t)
	}
	return api.OK
}

func checkHead(t api.Term) api.Errno {
	if t.Kind != api.Atom && t.Kind != api.Comp {
		return api.ErrClause
	}
	return checkExtended(t)
}

// checkExtended is of an atom or a compound that is to have two Args more.
func checkExtended(t api.Term) api.Errno {
	n := len(t.Args) + 2
	if base.Reserved(t.Name, n) {
		return api.ErrClause
	}
	if n > api.MaxArity {
		return api.ErrLarge
	}
	return api.OK
}

func haveBodies(terms []api.Term) bool {
	for _, t := range terms {
		if _, err := base.Body(t); err != api.OK {
			return false
		}
	}
	return true
}

func isList(t api.Term) bool {
	for isOf(t, ".", 2) {
		t = t.Args[1]
	}
	return isOf(t, "[]", 0)
}

// isOf: of no Args it is the atom.
func isOf(t api.Term, name string, n int) bool {
	return (t.Kind == api.Atom || t.Kind == api.Comp) && t.Name == name && len(t.Args) == n
}
