package machine

import (
	"hornbook/api"
	"hornbook/cell"
	"hornbook/inbuilt"
)

// instruction is one that is ready to be done.
type instruction struct {
	op, a, b int
	name     string // of a compound or a predicate, and how many Args
	n        int
	constant cell.Value
	entry    int // of a predicate that is called
	deed     inbuilt.Deed
}

// noEntry is of a predicate that is called and has none.
const noEntry = -1

// numbering gives slots other numbers, in the order in which they come first: so a frame needs no room for those
// that the code has not.
type numbering struct {
	given int
	of    [api.MaxSlots]int // one more than the number; 0, if none was given
}

func (n *numbering) number(slot int) int {
	if n.of[slot] == 0 {
		n.given++
		n.of[slot] = n.given
	}
	return n.of[slot] - 1
}

// readied is of code that Check takes.
func readied(c api.Code) []instruction {
	entries := map[predicate]int{}
	for _, e := range c.Entries {
		entries[predicate{e.Name, e.N}] = e.At
	}
	var slots numbering
	l := make([]instruction, len(c.Instrs))
	for k, i := range c.Instrs {
		f := forms[i.Op]
		if f.a == aSlot {
			i.A = slots.number(i.A)
		}
		if f.b == aSlot {
			i.B = slots.number(i.B)
		}
		l[k] = instruction{op: i.Op, a: i.A, b: i.B, name: i.Con.Name, n: int(i.Con.N), entry: noEntry}
		l[k].findCon(f.con, i.Con, entries)
	}
	return l
}

// findCon finds what the Con of an instruction stands for.
func (i *instruction) findCon(what int, c api.Constant, entries map[predicate]int) {
	switch what {
	case aConstant:
		i.constant = constantOf(c)
	case aPredicate:
		if at, is := entries[predicate{i.name, i.n}]; is {
			i.entry = at
		}
	case aBuiltin:
		i.deed = inbuilt.Find(i.name, i.n)
	}
}

func constantOf(c api.Constant) cell.Value {
	if c.Kind == api.Int {
		return cell.Number(c.N)
	}
	return cell.Atom(c.Name)
}
