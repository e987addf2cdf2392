package solve

import (
	"hornbook/api"
	"hornbook/base"
	"hornbook/cell"
	"hornbook/inbuilt"
)

// clauses is a choice to go on with the next clauses of a goal's predicate.
type clauses struct {
	view *base.View
	rule *cell.Rule // the next one
	args []cell.Value
	rest *goals
}

func (c *clauses) again(s *Search) bool {
	floor, rule := len(s.choices), c.rule
	if _, c.rule = c.view.Rule(); c.rule != nil {
		s.choose(c)
	}
	slots, ok := s.desk.Store.Enter(rule, c.args)
	if !ok {
		return false
	}
	s.goals = c.rest
	s.come(rule.Body, slots, floor)
	return true
}

// call is a goal of a predicate that is not reserved.
func (s *Search) call(name string, args []cell.Value) (bool, cell.Value) {
	view, known := s.view(name, args)
	if !known {
		return false, inbuilt.Unknown(name, len(args))
	}
	c := &clauses{view: view, args: args, rest: s.goals}
	if _, c.rule = view.Rule(); c.rule == nil {
		return false, nil
	}
	return c.again(s), nil
}

func (s *Search) view(name string, args []cell.Value) (view *base.View, known bool) {
	var first cell.Shape
	if len(args) > 0 {
		first = cell.Deref(args[0]).Shape()
	}
	return s.base.Rules(name, len(args), first)
}

// deed is what a goal does with its Args.
type deed func(s *Search, args []cell.Value) (holds bool, ball cell.Value)

// beyondDesk gives what a goal does that needs more than a desk, a choice or the base; nil if it is no such goal.
func beyondDesk(name string, args int) deed {
	switch {
	case name == "between" && args == 3:
		return (*Search).between
	case name == "assertz" && args == 1:
		return (*Search).assertLast
	case name == "asserta" && args == 1:
		return (*Search).assertFirst
	case name == "retract" && args == 1:
		return (*Search).retract
	}
	return nil
}

func (s *Search) between(args []cell.Value) (bool, cell.Value) {
	x := args[2]
	_, free := x.(*cell.Variable)
	for _, v := range args[:2] {
		if _, is := v.(*cell.Variable); is {
			return false, inbuilt.Unbound
		}
	}
	least, isOne := args[0].(cell.Number)
	most, isOther := args[1].(cell.Number)
	n, isNumber := x.(cell.Number)
	switch {
	case !isOne || !isOther || !free && !isNumber:
		return false, inbuilt.WrongKind
	case isNumber:
		return least <= n && n <= most, nil
	case least > most:
		return false, nil
	case least < most:
		later := cell.Made("between", least+1, most, x)
		s.choose(other{&goals{goal: later, next: s.goals}})
	}
	return s.desk.Store.Unify(x, least), nil
}

// headOf gives the head and the body that a term is, or the ball of a head that can't be one.
func headOf(v cell.Value) (head, body, ball cell.Value) {
	head, body = v, cell.Atom("true")
	if cell.IsOf(v, ":-", 2) {
		_, parts := cell.Parts(v)
		head, body = cell.Deref(parts[0]), cell.Deref(parts[1])
	}
	switch head.(type) {
	case *cell.Variable:
		return nil, nil, inbuilt.Unbound
	case cell.Number:
		return nil, nil, inbuilt.WrongKind
	}
	if name, args := cell.Parts(head); base.Reserved(name, len(args)) {
		return nil, nil, inbuilt.Protected(name, len(args))
	}
	return head, body, nil
}

func (s *Search) assertLast(args []cell.Value) (bool, cell.Value) {
	return s.lay(args[0], false)
}

func (s *Search) assertFirst(args []cell.Value) (bool, cell.Value) {
	return s.lay(args[0], true)
}

func (s *Search) lay(v cell.Value, first bool) (bool, cell.Value) {
	if _, _, ball := headOf(v); ball != nil {
		return false, ball
	}
	c, err := base.Make(cell.Written(v))
	if err != api.OK {
		return false, inbuilt.WrongKind
	}
	s.base.Add(c, first)
	return true, nil
}

func (s *Search) retract(args []cell.Value) (bool, cell.Value) {
	head, body, ball := headOf(args[0])
	if ball != nil {
		return false, ball
	}
	name, own := cell.Parts(head)
	view, _ := s.view(name, own)
	for id, rule := view.Rule(); rule != nil; id, rule = view.Rule() {
		if s.isClause(rule, own, body) {
			s.base.Remove(id)
			return true, nil
		}
	}
	return false, nil
}

// isClause unifies a clause with a head's Args and a body; if they can't be, nothing is bound.
func (s *Search) isClause(rule *cell.Rule, args []cell.Value, body cell.Value) bool {
	store := &s.desk.Store
	store.Mark()
	slots, is := store.Enter(rule, args)
	is = is && store.Unify(store.Build(rule.Body, slots), body)
	if !is {
		store.Back()
	}
	store.Keep(store.Marks() - 1)
	return is
}
