package base

import (
	"hornbook/api"
	"hornbook/term"
)

// truth is the body of a clause that has none of its own.
const truth = "true"

// predicate: a name and a number of Args.
type predicate struct {
	name string
	n    int
}

// Reserved: P14.
func Reserved(name string, n int) bool {
	if name == "call" {
		return n >= 1 && n <= 8
	}
	switch n {
	case 0:
		switch name {
		case "true", "fail", "!", "nl":
			return true
		}
	case 1:
		switch name {
		case "\\+", "throw", "var", "nonvar", "atom", "integer", "atomic", "compound", "callable", "ground",
			"assertz", "asserta", "retract", "print", ":-":
			return true
		}
	case 2:
		switch name {
		case ",", ";", "->", "=", "\\=", "==", "\\==", "@<", "@>", "@=<", "@>=", "=..", "copy_term",
			"is", "=:=", "=\\=", "<", ">", "=<", ">=", "atom_length", "atom_chars", "length", "sort", ":-", "-->":
			return true
		}
	case 3:
		switch name {
		case "catch", "findall", "compare", "functor", "arg", "between":
			return true
		}
	}
	return false
}

// Body: P14.
func Body(t api.Term) (api.Term, api.Errno) {
	// To apply nothing is to check, and to copy.
	own, err := term.Apply(t, nil)
	if err != api.OK {
		return api.Term{}, err
	}
	if !makeBody(&own) {
		return api.Term{}, api.ErrClause
	}
	return own, api.OK
}

// Make: P14.
func Make(t api.Term) (api.Clause, api.Errno) {
	// The variables come in the clause in the order in which they come in the term.
	own, _, err := term.Rename(t, 0)
	if err != api.OK {
		return api.Clause{}, err
	}
	c := api.Clause{Head: own, Body: api.Term{Kind: api.Atom, Name: truth}}
	if isOfTwo(own, ":-") {
		c = api.Clause{Head: own.Args[0], Body: own.Args[1]}
	}
	if !isCallable(c.Head) || isReserved(c.Head) || !makeBody(&c.Body) {
		return api.Clause{}, api.ErrClause
	}
	return c, api.OK
}

// Plain: P14.
func Plain(c api.Clause) (api.Term, api.Errno) {
	own, err := remade(c)
	if err != api.OK {
		return api.Term{}, err
	}
	return written(own), api.OK
}

// remade is a clause anew, with the errors of Plain.
func remade(c api.Clause) (api.Clause, api.Errno) {
	if term.Check(c.Head) != api.OK || term.Check(c.Body) != api.OK {
		return api.Clause{}, api.ErrTerm
	}
	own, err := Make(written(c))
	if err != api.OK {
		return api.Clause{}, err
	}
	if !isSame(own.Head, c.Head) || !isSame(own.Body, c.Body) {
		return api.Clause{}, api.ErrClause
	}
	return own, api.OK
}

// written is the term of a clause; it shares the clause's memory.
func written(c api.Clause) api.Term {
	if c.Body.Kind == api.Atom && c.Body.Name == truth {
		return c.Head
	}
	return api.Term{Kind: api.Comp, Name: ":-", Args: []api.Term{c.Head, c.Body}}
}

// makeBody turns a term into its body where it lies. Where it answers false there is none, and the term is half turned.
func makeBody(whole *api.Term) bool {
	left := []*api.Term{whole}
	for len(left) > 0 {
		t := left[len(left)-1]
		left = left[:len(left)-1]
		switch {
		case t.Kind == api.Int:
			return false
		case t.Kind == api.Var:
			*t = api.Term{Kind: api.Comp, Name: "call", Args: []api.Term{*t}}
		case isOfTwo(*t, ",") || isOfTwo(*t, ";") || isOfTwo(*t, "->"):
			left = append(left, &t.Args[0], &t.Args[1])
		}
	}
	return true
}

func isOfTwo(t api.Term, name string) bool {
	return t.Kind == api.Comp && t.Name == name && len(t.Args) == 2
}

func isCallable(t api.Term) bool {
	return t.Kind == api.Atom || t.Kind == api.Comp
}

func isReserved(t api.Term) bool {
	return Reserved(t.Name, len(t.Args))
}

func isSame(x, y api.Term) bool {
	c, err := term.Compare(x, y)
	return err == api.OK && c == 0
}

func predicateOf(t api.Term) predicate {
	return predicate{t.Name, len(t.Args)}
}
