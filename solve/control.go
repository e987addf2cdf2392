package solve

import (
	"hornbook/api"
	"hornbook/cell"
	"hornbook/inbuilt"
)

// control is what a goal does with its parts, which may be goals: so they come as they stand in their rule.
type control func(s *Search, g *goals, parts []cell.Value) (holds bool, ball cell.Value)

// controlling gives what a goal does that has to do with the list or the choices, nil if it is none of these.
func controlling(name string, parts int) control {
	switch parts {
	case 0:
		switch name {
		case "true":
			return (*Search).succeed
		case "fail":
			return (*Search).giveUp
		case "!":
			return (*Search).cutBack
		}
	case 1:
		if name == "\\+" {
			return (*Search).unless
		}
	case 2:
		switch name {
		case ",":
			return (*Search).both
		case ";":
			return (*Search).either
		case "->":
			return (*Search).ifAlone
		}
	case 3:
		switch name {
		case "findall":
			return (*Search).findAll
		case "catch":
			return (*Search).catch
		}
	}
	if name == "call" && parts >= 1 && parts <= 8 {
		return (*Search).callWith
	}
	return nil
}

func (s *Search) succeed(_ *goals, _ []cell.Value) (bool, cell.Value) {
	return true, nil
}

func (s *Search) giveUp(_ *goals, _ []cell.Value) (bool, cell.Value) {
	return false, nil
}

func (s *Search) cutBack(g *goals, _ []cell.Value) (bool, cell.Value) {
	s.cut(g.floor)
	return true, nil
}

func (s *Search) both(g *goals, parts []cell.Value) (bool, cell.Value) {
	s.goals = g.ahead(parts[0], g.ahead(parts[1], g.next))
	return true, nil
}

func (s *Search) either(g *goals, parts []cell.Value) (bool, cell.Value) {
	if cell.IsOf(parts[0], "->", 2) {
		_, inner := cell.Parts(parts[0])
		return s.ifThen(g, inner[0], inner[1], parts[1])
	}
	s.choose(other{g.ahead(parts[1], g.next)})
	s.goals = g.ahead(parts[0], g.next)
	return true, nil
}

func (s *Search) ifAlone(g *goals, parts []cell.Value) (bool, cell.Value) {
	return s.ifThen(g, parts[0], parts[1], cell.Atom("fail"))
}

func (s *Search) ifThen(g *goals, asked, then, otherwise cell.Value) (bool, cell.Value) {
	s.searchAlone(asked, g.slots, condition{
		height:    len(s.choices),
		then:      g.ahead(then, g.next),
		otherwise: g.ahead(otherwise, g.next),
	})
	return true, nil
}

func (s *Search) unless(g *goals, parts []cell.Value) (bool, cell.Value) {
	body, ball := bodyOf(s.built(parts[0], g.slots))
	if ball != nil {
		return false, ball
	}
	s.searchAlone(body, nil, negation{height: len(s.choices), rest: g.next})
	return true, nil
}

func (s *Search) findAll(g *goals, parts []cell.Value) (bool, cell.Value) {
	args := s.builtAll(parts, g.slots)
	body, ball := bodyOf(args[1])
	if ball != nil {
		return false, ball
	}
	s.searchAlone(body, nil, &collection{what: args[0], list: args[2], rest: g.next})
	return true, nil
}

// callWith is call, also with more Args.
func (s *Search) callWith(g *goals, parts []cell.Value) (bool, cell.Value) {
	args := s.builtAll(parts, g.slots)
	goal, ball := withMore(args[0], args[1:])
	if ball != nil {
		return false, ball
	}
	body, ball := bodyOf(goal)
	if ball != nil {
		return false, ball
	}
	s.come(body, nil, len(s.choices))
	return true, nil
}

func (s *Search) catch(g *goals, parts []cell.Value) (bool, cell.Value) {
	args := s.builtAll(parts, g.slots)
	c := &catching{height: len(s.choices), ball: args[1], recovery: args[2]}
	s.choose(c)
	s.goals = &goals{end: c, next: s.goals}
	body, ball := bodyOf(args[0])
	if ball != nil {
		return false, ball
	}
	s.come(body, nil, len(s.choices))
	return true, nil
}

// withMore is a goal with more Args behind its own.
func withMore(goal cell.Value, more []cell.Value) (cell.Value, cell.Value) {
	if len(more) == 0 {
		return goal, nil
	}
	if ball := uncallable(goal); ball != nil {
		return nil, ball
	}
	name, own := cell.Parts(goal)
	if len(own)+len(more) > api.MaxArity {
		return nil, inbuilt.NotCallable
	}
	args := make([]cell.Value, 0, len(own)+len(more))
	return cell.Made(name, append(append(args, own...), more...)...), nil
}

// uncallable is the ball of what is neither an atom nor a compound.
func uncallable(goal cell.Value) cell.Value {
	switch goal.(type) {
	case *cell.Variable:
		return inbuilt.Unbound
	case cell.Number:
		return inbuilt.NotCallable
	}
	return nil
}

// bodyOf is the body of a goal, or the ball.
func bodyOf(goal cell.Value) (body, ball cell.Value) {
	if ball := uncallable(goal); ball != nil {
		return nil, ball
	}
	body, is := madeBody(goal)
	if !is {
		return nil, inbuilt.NotCallable
	}
	return body, nil
}

// madeBody is P14's Body, and whether there is one.
func madeBody(goal cell.Value) (body cell.Value, is bool) {
	is = true
	body = cell.Fold(goal, func(v cell.Value) (cell.Value, bool) {
		switch v.(type) {
		case *cell.Variable:
			return cell.Made("call", v), false
		case cell.Number:
			is = false
		}
		return v, cell.IsOf(v, ",", 2) || cell.IsOf(v, ";", 2) || cell.IsOf(v, "->", 2)
	}, cell.Remade)
	return body, is
}
