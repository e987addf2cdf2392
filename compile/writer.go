package compile

import (
	"hornbook/api"
)

// writer writes code, clause by clause.
type writer struct {
	code  api.Code
	slots int // how many the clause takes that takes the most
	clauseVars
}

// isTooLarge: is there more than a machine takes?
func (w *writer) isTooLarge() bool {
	return len(w.code.Instrs) > api.MaxCode || w.slots > api.MaxSlots
}

// write answers the place of the instruction. Code that is too large is not told, so it needs not grow any more.
func (w *writer) write(i api.Instr) int {
	if len(w.code.Instrs) <= api.MaxCode {
		w.code.Instrs = append(w.code.Instrs, i)
	}
	return len(w.code.Instrs) - 1
}

// leadHere makes instructions go on at the place of the one that is written next.
func (w *writer) leadHere(places ...int) {
	for _, k := range places {
		w.code.Instrs[k].A = len(w.code.Instrs)
	}
}

// takeSlots takes the first so many.
func (w *writer) takeSlots(n int) {
	w.slots = max(w.slots, n)
}

// clause writes one whose variables are numbered from 0 on, in the order in which they come first.
func (w *writer) clause(c api.Clause) {
	w.clauseVars = varsOf(c)
	w.takeSlots(w.spare + 1)
	for k, t := range c.Head.Args {
		if !w.isVoid(t) {
			w.arg(k, t, ops{api.GetVar, api.GetVal, api.GetConst, api.GetComp})
		}
	}
	w.goal(c.Body, standing{last: true, free: w.spare + 1})
}

// ops are the instructions for a variable that comes first, one that comes again, a constant and a compound.
type ops struct {
	first, again, constant, compound int
}

// arg writes how the arg k is got or put.
func (w *writer) arg(k int, t api.Term, o ops) {
	switch t.Kind {
	case api.Var:
		op, slot := w.meet(t, o)
		w.write(api.Instr{Op: op, A: k, B: slot})
	case api.Comp:
		w.write(api.Instr{Op: o.compound, A: k, Con: constantOf(t)})
		w.parts(t.Args)
	default:
		w.write(api.Instr{Op: o.constant, A: k, Con: constantOf(t)})
	}
}

// parts writes those of a compound, whether it is got or put.
func (w *writer) parts(l []api.Term) {
	voids := 0
	for _, t := range l {
		if w.isVoid(t) {
			voids++
			continue
		}
		w.passOver(voids)
		voids = 0
		w.part(t, ops{api.SubVar, api.SubVal, api.SubConst, api.SubComp})
	}
	w.passOver(voids)
}

func (w *writer) part(t api.Term, o ops) {
	switch t.Kind {
	case api.Var:
		op, slot := w.meet(t, o)
		w.write(api.Instr{Op: op, A: slot})
	case api.Comp:
		w.write(api.Instr{Op: o.compound, Con: constantOf(t)})
		w.parts(t.Args)
	default:
		w.write(api.Instr{Op: o.constant, Con: constantOf(t)})
	}
}

func (w *writer) passOver(parts int) {
	if parts > 0 {
		w.write(api.Instr{Op: api.SubVoid, A: parts})
	}
}

// constantOf is how code has what is no variable, without its Args.
func constantOf(t api.Term) api.Constant {
	if t.Kind == api.Comp {
		return predicateOf(t)
	}
	return api.Constant{Kind: t.Kind, Name: t.Name, N: t.N}
}

// predicateOf is how code has the predicate of an atom or a compound.
func predicateOf(t api.Term) api.Constant {
	return api.Constant{Kind: api.Comp, Name: t.Name, N: int64(len(t.Args))}
}
