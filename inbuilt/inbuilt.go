// Package inbuilt: goals that are done at once, without a choice and without a base, whoever runs them: those of
// doc/06-solve.md's second table but `between`, `assertz`, `asserta` and `retract`; and `throw`.
package inbuilt

import (
	"hornbook/cell"
)

// Desk is what such a goal works on.
type Desk struct {
	Store cell.Store
	Text  []byte // what was printed
}

// A Deed does a goal, of which it gets the Args: it says whether it holds, or the ball that is thrown.
type Deed func(d *Desk, args []cell.Value) (holds bool, ball cell.Value)

// Find gives what a goal of that name with so many Args does, nil if there is no such goal.
func Find(name string, args int) Deed {
	switch args {
	case 0:
		return withNone(name)
	case 1:
		return withOne(name)
	case 2:
		return withTwo(name)
	case 3:
		return withThree(name)
	}
	return nil
}

func withNone(name string) Deed {
	if name == "nl" {
		return newLine
	}
	return nil
}

func withOne(name string) Deed {
	switch name {
	case "print":
		return printed
	case "throw":
		return thrown
	case "ground":
		return asks(cell.IsGround)
	}
	if is := kindOf(name); is != nil {
		return asks(is)
	}
	return nil
}

func withTwo(name string) Deed {
	switch name {
	case "=":
		return unified
	case "\\=":
		return differing
	case "==":
		return asksTwo(cell.Same)
	case "\\==":
		return asksTwo(func(x, y cell.Value) bool { return !cell.Same(x, y) })
	case "@<":
		return ordered(func(order int) bool { return order < 0 })
	case "@>":
		return ordered(func(order int) bool { return order > 0 })
	case "@=<":
		return ordered(func(order int) bool { return order <= 0 })
	case "@>=":
		return ordered(func(order int) bool { return order >= 0 })
	case "is":
		return reckoned
	case "=:=", "=\\=", "<", ">", "=<", ">=":
		return related(name)
	case "=..":
		return listed
	case "copy_term":
		return copied
	case "atom_length":
		return measured
	case "atom_chars":
		return spelled
	case "length":
		return counted
	case "sort":
		return sorted
	}
	return nil
}

func withThree(name string) Deed {
	switch name {
	case "compare":
		return compared
	case "functor":
		return named
	case "arg":
		return argued
	}
	return nil
}

// asks is of what throws nothing.
func asks(is func(v cell.Value) bool) Deed {
	return func(_ *Desk, args []cell.Value) (bool, cell.Value) {
		return is(args[0]), nil
	}
}

func asksTwo(are func(x, y cell.Value) bool) Deed {
	return func(_ *Desk, args []cell.Value) (bool, cell.Value) {
		return are(args[0], args[1]), nil
	}
}

// unify is how most goals end.
func (d *Desk) unify(x, y cell.Value) (bool, cell.Value) {
	return d.Store.Unify(x, y), nil
}
