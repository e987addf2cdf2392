package compile

import (
	"hornbook/api"
)

// clauseVars are the variables of the clause that is being written, by their numbers.
type clauseVars struct {
	vars  []variable
	spare int // a slot in which nothing is kept
}

// variable: how often it stands in its clause, and whether code was written that fills its slot.
type variable struct {
	uses, slot int
	met        bool
}

// varsOf gives each variable a slot of its own, but for those that stand in but one place: nothing asks for them again.
func varsOf(c api.Clause) clauseVars {
	var v clauseVars
	v.count(c.Head)
	v.count(c.Body)
	for k := range v.vars {
		if v.vars[k].uses > 1 {
			v.vars[k].slot = v.spare
			v.spare++
		}
	}
	for k := range v.vars {
		if v.vars[k].uses == 1 {
			v.vars[k].slot = v.spare
		}
	}
	return v
}

func (v *clauseVars) count(t api.Term) {
	if t.Kind == api.Var {
		if int(t.N) == len(v.vars) {
			v.vars = append(v.vars, variable{})
		}
		v.vars[t.N].uses++
	}
	for _, arg := range t.Args {
		v.count(arg)
	}
}

// isVoid: is it a variable that stands in but one place?
func (v *clauseVars) isVoid(t api.Term) bool {
	return t.Kind == api.Var && v.vars[t.N].uses == 1
}

// meet says which instruction a variable has where it stands, and its slot. Code runs in the order in which it is written,
// and what fails takes slots back: so where a variable comes first, its slot was not set. Where it comes again it may not have been
// either, behind a branch in which it does not stand: then a machine makes a new variable.
func (v *clauseVars) meet(t api.Term, o ops) (op, slot int) {
	x := &v.vars[t.N]
	if x.met {
		return o.again, x.slot
	}
	x.met = true
	return o.first, x.slot
}
