package compile

import (
	"hornbook/api"
	"hornbook/base"
	"hornbook/machine"
)

// What goals there is code for.
const (
	noGoal = iota
	truth
	failure
	cut
	both
	either
	condition
	negation
	builtin
	call
)

// goalOf says what a part of a body is.
func goalOf(t api.Term) int {
	if t.Kind != api.Atom && t.Kind != api.Comp {
		return noGoal
	}
	if control := controlOf(t.Name, len(t.Args)); control != noGoal {
		return control
	}
	switch {
	case machine.Allowed(t.Name, len(t.Args)):
		return builtin
	case base.Reserved(t.Name, len(t.Args)):
		return noGoal
	}
	return call
}

func controlOf(name string, args int) int {
	switch args {
	case 0:
		switch name {
		case "true":
			return truth
		case "fail":
			return failure
		case "!":
			return cut
		}
	case 1:
		if name == "\\+" {
			return negation
		}
	case 2:
		switch name {
		case ",":
			return both
		case ";":
			return either
		case "->":
			return condition
		}
	}
	return noGoal
}

// canBeCompiled says it of a body. What \+ has need not be made one first: a variable would become a call, of which there is no code,
// and an integer is no goal either way.
func canBeCompiled(body api.Term) bool {
	left := []api.Term{body}
	for len(left) > 0 {
		t := left[len(left)-1]
		left = left[:len(left)-1]
		switch goalOf(t) {
		case noGoal:
			return false
		case both, either, condition, negation:
			left = append(left, t.Args...)
		}
	}
	return true
}

// hasCut: is there a cut in a body that is not one of something searched by itself within it?
func hasCut(body api.Term) bool {
	left := []api.Term{body}
	for len(left) > 0 {
		t := left[len(left)-1]
		left = left[:len(left)-1]
		switch goalOf(t) {
		case cut:
			return true
		case both, either:
			left = append(left, t.Args...)
		case condition:
			left = append(left, t.Args[1])
		}
	}
	return false
}
