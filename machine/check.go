package machine

import (
	"hornbook/api"
	"hornbook/base"
)

// What the A, the B and the Con of an instruction are. What has none of them has nothing there.
const (
	nothing = iota
	anArg
	aSlot
	aPlace
	aCount
	aConstant
	aCompound
	aPredicate
	aBuiltin
)

// form is what an instruction looks like.
type form struct {
	a, b, con int
}

var forms = [...]form{
	api.GetVar:      {a: anArg, b: aSlot},
	api.GetVal:      {a: anArg, b: aSlot},
	api.GetConst:    {a: anArg, con: aConstant},
	api.GetComp:     {a: anArg, con: aCompound},
	api.SubVar:      {a: aSlot},
	api.SubVal:      {a: aSlot},
	api.SubConst:    {con: aConstant},
	api.SubComp:     {con: aCompound},
	api.SubVoid:     {a: aCount},
	api.PutVar:      {a: anArg, b: aSlot},
	api.PutVal:      {a: anArg, b: aSlot},
	api.PutConst:    {a: anArg, con: aConstant},
	api.PutComp:     {a: anArg, con: aCompound},
	api.Call:        {con: aPredicate},
	api.Last:        {con: aPredicate},
	api.Back:        {},
	api.Fail:        {},
	api.Try:         {a: aPlace},
	api.Jump:        {a: aPlace},
	api.Level:       {a: aSlot},
	api.Mark:        {a: aSlot},
	api.Cut:         {a: aSlot},
	api.Builtin:     {con: aBuiltin},
	api.UnlessConst: {a: aPlace, con: aConstant},
	api.UnlessComp:  {a: aPlace, con: aCompound},
}

// areInstrs: is each as its form says, and none behind the last one needed?
func areInstrs(l []api.Instr) bool {
	for _, i := range l {
		if !isInstr(i, len(l)) {
			return false
		}
	}
	return len(l) > 0 && leavesOff(l[len(l)-1].Op)
}

func isInstr(i api.Instr, places int) bool {
	if i.Op < api.GetVar || i.Op >= len(forms) {
		return false
	}
	f := forms[i.Op]
	return isNumber(f.a, i.A, places) && isNumber(f.b, i.B, places) && isCon(f.con, i.Con)
}

// leavesOff: does an instruction never go on with the next one?
func leavesOff(op int) bool {
	return op == api.Last || op == api.Back || op == api.Fail || op == api.Jump
}

func isNumber(what, n, places int) bool {
	switch what {
	case anArg:
		return n >= 0 && n < api.MaxArity
	case aSlot:
		return n >= 0 && n < api.MaxSlots
	case aPlace:
		return isPlace(n, places)
	case aCount:
		return n >= 1 && n <= api.MaxArity
	}
	return n == 0
}

func isPlace(n, places int) bool {
	return n >= 0 && n < places
}

func isCon(what int, c api.Constant) bool {
	switch what {
	case aConstant:
		return c.Kind == api.Int && c.Name == "" || c.Kind == api.Atom && c.N == 0 && len(c.Name) <= api.MaxName
	case aCompound:
		return isPredicate(c) && c.N > 0
	case aPredicate:
		return isPredicate(c)
	case aBuiltin:
		return isPredicate(c) && Allowed(c.Name, int(c.N))
	}
	return c == api.Constant{}
}

func isPredicate(c api.Constant) bool {
	return c.Kind == api.Comp && len(c.Name) <= api.MaxName && c.N >= 0 && c.N <= api.MaxArity
}

// predicate: a name and a number of Args.
type predicate struct {
	name string
	n    int
}

func areEntries(l []api.Entry, places int) bool {
	met := map[predicate]int{}
	for _, e := range l {
		p := predicate{e.Name, e.N}
		if met[p] > 0 || !isPlace(e.At, places) || !hasCode(p) {
			return false
		}
		met[p]++
	}
	return true
}

// hasCode: may a predicate have an entry?
func hasCode(p predicate) bool {
	return len(p.name) <= api.MaxName && p.n >= 0 && p.n <= api.MaxArity && !base.Reserved(p.name, p.n)
}
