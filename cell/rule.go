package cell

import (
	"hornbook/api"
)

// Rule is a clause that is ready to be searched with: its variables are slots, which are filled anew each time.
type Rule struct {
	Body  Value
	head  []Value
	slots int
}

// NewRule is of a clause whose variables are numbered from 0 on.
func NewRule(c api.Clause) *Rule {
	r := &Rule{}
	slot := func(n int64) Value {
		r.slots = max(r.slots, int(n)+1)
		return Slot(n)
	}
	_, r.head = Parts(read(c.Head, slot))
	r.Body = read(c.Body, slot)
	return r
}

// Enter unifies the Args of a rule's head with those of a goal, and answers what its slots are filled with.
// If they can't be, it may have bound something: that is the caller's to take back.
func (s *Store) Enter(r *Rule, args []Value) (slots []Value, ok bool) {
	slots = make([]Value, r.slots)
	for k, arg := range args {
		if !s.match(r.head[k], arg, slots, deepest) {
			return nil, false
		}
	}
	for k, v := range slots {
		if v == nil {
			slots[k] = s.Variable()
		}
	}
	return slots, true
}

// deepest is how deep a part is gone into by calls in one another: what lies deeper, as in few clauses, is gone through by Fold.
const deepest = 1000

// match unifies a part of a head with a term, without making that part where it needs not be.
func (s *Store) match(part, v Value, slots []Value, deeper int) bool {
	for {
		v = Deref(v)
		if part == v {
			return true
		}
		if n, is := part.(Slot); is && slots[n] == nil {
			slots[n] = v
			return true
		}
		p, isOne := part.(*Compound)
		c, isOther := v.(*Compound)
		if !isOne || !isOther || p.fixed || deeper == 0 {
			return s.Unify(s.Build(part, slots), v)
		}
		if p.Name != c.Name || len(p.Args) != len(c.Args) {
			return false
		}
		last := len(p.Args) - 1
		for k := range last {
			if !s.match(p.Args[k], c.Args[k], slots, deeper-1) {
				return false
			}
		}
		part, v = p.Args[last], c.Args[last]
	}
}

// Build is a part of a rule with what its slots are filled with; where one is not, with a new variable from now on.
// Without slots it is the term as it is.
func (s *Store) Build(part Value, slots []Value) Value {
	if len(slots) == 0 {
		return Deref(part)
	}
	return s.build(part, slots, deepest)
}

func (s *Store) build(part Value, slots []Value, deeper int) Value {
	switch x := part.(type) {
	case Slot:
		if slots[x] == nil {
			slots[x] = s.Variable()
		}
		return Deref(slots[x])
	case *Compound:
		if x.fixed {
			return x
		}
		if deeper == 0 {
			return s.buildDeep(x, slots)
		}
		args := make([]Value, len(x.Args))
		for k, arg := range x.Args {
			args[k] = s.build(arg, slots, deeper-1)
		}
		return Made(x.Name, args...)
	}
	return part
}

func (s *Store) buildDeep(part *Compound, slots []Value) Value {
	return Fold(part, func(v Value) (Value, bool) {
		if c, is := v.(*Compound); is {
			return c, !c.fixed
		}
		return s.build(v, slots, 0), false
	}, Remade)
}
