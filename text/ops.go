package text

import (
	"hornbook/api"
)

const (
	topPrio   = 1200
	commaPrio = 1000
	// argPrio keeps commas that are no operators from being read as ones.
	argPrio = commaPrio - 1
)

// priorities of an operator: its own, and the highest ones that may stand to its left and to its right.
type priorities struct {
	own, left, right int
}

// operators are found by their names; a name may be an infix and a prefix one.
type operators struct {
	infix, prefix map[string]priorities
}

func rows(kind, prio int, names ...string) []api.Op {
	list := make([]api.Op, len(names))
	for k, name := range names {
		list[k] = api.Op{Name: name, Prio: prio, Type: kind}
	}
	return list
}

func tableOf(ops []api.Op) (operators, api.Errno) {
	if len(ops) > api.MaxOps {
		return operators{}, api.ErrOp
	}
	table := operators{infix: map[string]priorities{}, prefix: map[string]priorities{}}
	for _, op := range ops {
		if !table.add(op) {
			return operators{}, api.ErrOp
		}
	}
	return table, api.OK
}

// add says whether op is one that P9 allows beside those that are there.
func (o operators) add(op api.Op) bool {
	if !mayBeOperator(op.Name) || op.Prio < 1 || op.Prio > topPrio {
		return false
	}
	var like map[string]priorities
	switch op.Type {
	case api.XFX, api.XFY, api.YFX:
		like = o.infix
	case api.FY, api.FX:
		like = o.prefix
	default:
		return false
	}
	if _, twice := like[op.Name]; twice {
		return false
	}
	like[op.Name] = prioritiesOf(op.Type, op.Prio)
	return true
}

func mayBeOperator(name string) bool {
	switch name {
	case ",", "|", "[]", "{}":
		return false
	}
	return len(name) <= api.MaxName
}

func prioritiesOf(kind, prio int) priorities {
	p := priorities{own: prio, left: prio - 1, right: prio - 1}
	switch kind {
	case api.XFY, api.FY:
		p.right = prio
	case api.YFX:
		p.left = prio
	}
	return p
}

func comma() priorities {
	return prioritiesOf(api.XFY, commaPrio)
}

// isYFX: no other infix operator takes its own priority to its left.
func (p priorities) isYFX() bool {
	return p.left == p.own
}

func (o operators) isOperator(name string) bool {
	_, infix := o.infix[name]
	_, prefix := o.prefix[name]
	return infix || prefix
}

// infixToken: only the bare `,` is the operator that always is; between quotes it is an atom like others.
func (o operators) infixToken(t api.Token) (priorities, bool) {
	switch {
	case isName(t):
		op, ok := o.infix[t.Text]
		return op, ok
	case t.Kind == api.TokPunct && t.Text == ",":
		return comma(), true
	}
	return priorities{}, false
}

func isName(t api.Token) bool {
	return t.Kind == api.TokAtom || t.Kind == api.TokQuoted
}
