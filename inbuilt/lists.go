package inbuilt

import (
	"slices"

	"hornbook/api"
	"hornbook/cell"
)

// entriesOf: of what must be a list, or the ball.
func entriesOf(v cell.Value) (entries []cell.Value, ball cell.Value) {
	entries, is, open := cell.Entries(v)
	switch {
	case open:
		return nil, Unbound
	case !is:
		return nil, WrongKind
	}
	return entries, nil
}

// listed is `=..`.
func listed(d *Desk, args []cell.Value) (bool, cell.Value) {
	t := cell.Deref(args[0])
	if isVariable(t) {
		return d.fromList(t, args[1])
	}
	_, parts := cell.Parts(t)
	return d.unify(args[1], cell.List(slices.Concat([]cell.Value{nameOf(t)}, parts)))
}

func (d *Desk) fromList(t, list cell.Value) (bool, cell.Value) {
	entries, ball := entriesOf(list)
	if ball != nil {
		return false, ball
	}
	if len(entries) == 0 {
		return false, WrongKind
	}
	if isVariable(entries[0]) {
		return false, Unbound
	}
	if len(entries) == 1 && !isCompound(entries[0]) {
		return d.unify(t, entries[0])
	}
	name, is := entries[0].(cell.Atom)
	if !is || len(entries) > 1+api.MaxArity {
		return false, WrongKind
	}
	return d.unify(t, cell.Made(string(name), entries[1:]...))
}

// measured is atom_length.
func measured(d *Desk, args []cell.Value) (bool, cell.Value) {
	if isVariable(args[0]) {
		return false, Unbound
	}
	name, is := cell.Deref(args[0]).(cell.Atom)
	if !is {
		return false, WrongKind
	}
	return d.unify(args[1], cell.Number(len(name)))
}

// spelled is atom_chars.
func spelled(d *Desk, args []cell.Value) (bool, cell.Value) {
	if isVariable(args[0]) {
		return d.fromBytes(args[0], args[1])
	}
	name, is := cell.Deref(args[0]).(cell.Atom)
	if !is {
		return false, WrongKind
	}
	list := make([]cell.Value, len(name))
	for k := range list {
		list[k] = name[k : k+1]
	}
	return d.unify(args[1], cell.List(list))
}

func (d *Desk) fromBytes(t, list cell.Value) (bool, cell.Value) {
	entries, ball := entriesOf(list)
	if ball != nil {
		return false, ball
	}
	if slices.ContainsFunc(entries, isVariable) {
		return false, Unbound
	}
	if len(entries) > api.MaxName {
		return false, WrongKind
	}
	var name cell.Atom
	for _, x := range entries {
		one, is := x.(cell.Atom)
		if !is || len(one) != 1 {
			return false, WrongKind
		}
		name += one
	}
	return d.unify(t, name)
}

// counted is length.
func counted(d *Desk, args []cell.Value) (bool, cell.Value) {
	entries, ball := entriesOf(args[0])
	if ball != nil {
		return false, ball
	}
	return d.unify(args[1], cell.Number(len(entries)))
}

func sorted(d *Desk, args []cell.Value) (bool, cell.Value) {
	entries, ball := entriesOf(args[0])
	if ball != nil {
		return false, ball
	}
	for _, x := range entries {
		if !cell.IsGround(x) {
			return false, Unbound
		}
	}
	slices.SortFunc(entries, func(x, y cell.Value) int {
		order, _ := cell.Compare(x, y)
		return order
	})
	return d.unify(args[1], cell.List(slices.CompactFunc(entries, cell.Same)))
}
