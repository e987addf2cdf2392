// Package cell: terms as a search has them. A variable is a cell that is filled when it is bound: so what it stands for
// is seen at once wherever it stands, and memory that nothing leads to any more is let go.
package cell

import (
	"cmp"

	"hornbook/api"
)

// Value is a term: a *Variable, a Number, an Atom or a *Compound; in a Rule a Slot stands for each variable.
type Value interface {
	// Shape is what is seen of it from outside.
	Shape() Shape
}

// Shape of a term: its kind and name, its number, and how many Args it has; all zero of a variable.
type Shape struct {
	Kind int
	N    int64
	Name string
	Args int
}

// Variable is free as long as it is to be nothing.
type Variable struct {
	to     Value
	born   int   // the time, by the store's clock
	rank   int32 // how many joints there may be on the way from another variable to this one
	inside bool  // it may stand in a compound: else it is in none that it could be bound to
}

// Number is an integer.
type Number int64

// Atom is an atom, by its name.
type Atom string

// Compound is one by Made alone.
type Compound struct {
	Name  string
	Args  []Value
	fixed bool // there is no variable in it, bound or not: it is the same term for ever
}

// Slot is a variable of a Rule, by its number.
type Slot int

func (v *Variable) Shape() Shape { return Shape{} }

func (n Number) Shape() Shape { return Shape{Kind: api.Int, N: int64(n)} }

func (a Atom) Shape() Shape { return Shape{Kind: api.Atom, Name: string(a)} }

func (c *Compound) Shape() Shape { return Shape{Kind: api.Comp, Name: c.Name, Args: len(c.Args)} }

func (s Slot) Shape() Shape { return Shape{} }

// order is that of terms, as far as the shapes of two tell it.
func (s Shape) order(t Shape) int {
	return cmp.Or(cmp.Compare(s.Kind, t.Kind), cmp.Compare(s.N, t.N), cmp.Compare(s.Args, t.Args), cmp.Compare(s.Name, t.Name))
}

// Deref is what a term stands for: a variable only if it is free.
func Deref(v Value) Value {
	for {
		x, is := v.(*Variable)
		if !is || x.to == nil {
			return v
		}
		v = x.to
	}
}

// Made is a compound of some Args, one or more, or an atom of none. It keeps the list.
func Made(name string, args ...Value) Value {
	if len(args) == 0 {
		return Atom(name)
	}
	fixed := true
	for k, arg := range args {
		args[k] = Deref(arg)
		switch x := args[k].(type) {
		case *Variable:
			x.inside = true
			fixed = false
		case *Compound:
			fixed = fixed && x.fixed
		case Slot:
			fixed = false
		}
	}
	return &Compound{Name: name, Args: args, fixed: fixed}
}

// Parts are the name and the Args of an atom or a compound.
func Parts(v Value) (name string, args []Value) {
	switch x := v.(type) {
	case Atom:
		return string(x), nil
	case *Compound:
		return x.Name, x.Args
	}
	return "", nil
}

// IsOf: is it a compound of that name with so many Args?
func IsOf(v Value, name string, args int) bool {
	c, is := v.(*Compound)
	return is && c.Name == name && len(c.Args) == args
}

const (
	empty = Atom("[]")
	pair  = "."
)

// List is the list of some terms.
func List(entries []Value) Value {
	var list Value = empty
	for k := len(entries) - 1; k >= 0; k-- {
		list = Made(pair, entries[k], list)
	}
	return list
}

// Entries are those of a list, and whether it is one; if it is none, open says whether a variable is in the place of its end.
func Entries(v Value) (entries []Value, is, open bool) {
	v = Deref(v)
	for IsOf(v, pair, 2) {
		_, args := Parts(v)
		entries = append(entries, Deref(args[0]))
		v = Deref(args[1])
	}
	_, open = v.(*Variable)
	return entries, v == empty, open
}
