package inbuilt

import (
	"hornbook/api"
	"hornbook/cell"
	"hornbook/text"
)

func unified(d *Desk, args []cell.Value) (bool, cell.Value) {
	return d.unify(args[0], args[1])
}

func differing(d *Desk, args []cell.Value) (bool, cell.Value) {
	d.Store.Mark()
	could := d.Store.Unify(args[0], args[1])
	d.Store.Back()
	d.Store.Keep(d.Store.Marks() - 1)
	return !could, nil
}

func ordered(is func(order int) bool) Deed {
	return func(_ *Desk, args []cell.Value) (bool, cell.Value) {
		order, unclear := cell.Compare(args[0], args[1])
		if unclear {
			return false, Unbound
		}
		return is(order), nil
	}
}

func compared(d *Desk, args []cell.Value) (bool, cell.Value) {
	order, unclear := cell.Compare(args[1], args[2])
	if unclear {
		return false, Unbound
	}
	names := [3]cell.Atom{"<", "=", ">"}
	return d.unify(args[0], names[order+1])
}

// nameOf is what stands for the name of a term that is no variable: an integer's is itself.
func nameOf(v cell.Value) cell.Value {
	if c, is := v.(*cell.Compound); is {
		return cell.Atom(c.Name)
	}
	return v
}

// named is functor.
func named(d *Desk, args []cell.Value) (bool, cell.Value) {
	t := cell.Deref(args[0])
	if isVariable(t) {
		return d.fromName(t, cell.Deref(args[1]), cell.Deref(args[2]))
	}
	if !d.Store.Unify(args[1], nameOf(t)) {
		return false, nil
	}
	_, parts := cell.Parts(t)
	return d.unify(args[2], cell.Number(len(parts)))
}

func (d *Desk) fromName(t, name, args cell.Value) (bool, cell.Value) {
	if isVariable(name) || isVariable(args) {
		return false, Unbound
	}
	n, is := args.(cell.Number)
	if !is || n < 0 || n > api.MaxArity || isCompound(name) || isNumber(name) && n != 0 {
		return false, WrongKind
	}
	if n == 0 {
		return d.unify(t, name)
	}
	list := make([]cell.Value, n)
	for k := range list {
		list[k] = d.Store.Variable()
	}
	word, _ := cell.Parts(name)
	return d.unify(t, cell.Made(word, list...))
}

// argued is arg.
func argued(d *Desk, args []cell.Value) (bool, cell.Value) {
	if isVariable(args[0]) || isVariable(args[1]) {
		return false, Unbound
	}
	n, is := cell.Deref(args[0]).(cell.Number)
	c, has := cell.Deref(args[1]).(*cell.Compound)
	if !is || !has {
		return false, WrongKind
	}
	if n < 1 || n > cell.Number(len(c.Args)) {
		return false, nil
	}
	return d.unify(args[2], c.Args[n-1])
}

func copied(d *Desk, args []cell.Value) (bool, cell.Value) {
	return d.unify(args[1], d.Store.Copy(args[0]))
}

func printed(d *Desk, args []cell.Value) (bool, cell.Value) {
	s, _ := text.Print(cell.Written(args[0]), text.Default())
	d.Text = append(d.Text, s...)
	return true, nil
}

func newLine(d *Desk, _ []cell.Value) (bool, cell.Value) {
	d.Text = append(d.Text, '\n')
	return true, nil
}
