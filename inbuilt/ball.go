package inbuilt

import (
	"hornbook/cell"
)

// Balls that are atoms.
const (
	Unbound     = cell.Atom("unbound")
	NotCallable = cell.Atom("not_callable")
	WrongKind   = cell.Atom("wrong_kind")
)

// Protected is the ball of a predicate that may not be used so.
func Protected(name string, args int) cell.Value {
	return about("protected", name, args)
}

// Unknown is the ball of a predicate that has no clause, and never had one.
func Unknown(name string, args int) cell.Value {
	return about("unknown", name, args)
}

func notEvaluable(name string, args int) cell.Value {
	return about("not_evaluable", name, args)
}

func about(what, name string, args int) cell.Value {
	return cell.Made(what, cell.Made("/", cell.Atom(name), cell.Number(args)))
}

// thrown: a ball keeps nothing of where it was thrown.
func thrown(d *Desk, args []cell.Value) (bool, cell.Value) {
	if isVariable(args[0]) {
		return false, Unbound
	}
	return false, d.Store.Copy(args[0])
}
