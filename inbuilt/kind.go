package inbuilt

import (
	"hornbook/cell"
)

// kindOf gives the kind of terms that a name asks for, nil if it asks for none.
func kindOf(name string) func(v cell.Value) bool {
	switch name {
	case "var":
		return isVariable
	case "nonvar":
		return func(v cell.Value) bool { return !isVariable(v) }
	case "atom":
		return isAtom
	case "integer":
		return isNumber
	case "atomic":
		return func(v cell.Value) bool { return isAtom(v) || isNumber(v) }
	case "compound":
		return isCompound
	case "callable":
		return func(v cell.Value) bool { return isAtom(v) || isCompound(v) }
	}
	return nil
}

func isVariable(v cell.Value) bool {
	_, is := cell.Deref(v).(*cell.Variable)
	return is
}

func isNumber(v cell.Value) bool {
	_, is := cell.Deref(v).(cell.Number)
	return is
}

func isAtom(v cell.Value) bool {
	_, is := cell.Deref(v).(cell.Atom)
	return is
}

func isCompound(v cell.Value) bool {
	_, is := cell.Deref(v).(*cell.Compound)
	return is
}
