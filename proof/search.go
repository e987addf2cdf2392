package proof

import (
	"hornbook/base"
	"hornbook/cell"
)

// search makes goals true, from the left, by clauses of a program, in the order of their places. It is no recursion,
// as a proof may have more parts than calls can be within one another.
type search struct {
	program *program
	store   cell.Store
	goals   *goals
	choices []*choice // for each there is a mark in the store
	taken   []int     // the places of the clauses by which goals were made true, each clause's ahead of those of its own goals
}

// goals is a list: the first goal, and those behind it. It is never changed, so that choices may share it.
// A goal is part of a rule, with what its slots are filled with, or, without slots, a term as it is.
// What is joined by `,` stands there as one goal until it comes to the front.
type goals struct {
	goal    cell.Value
	slots   []cell.Value
	depth   int    // how deep a proof of it may be
	reached func() // stands here instead of a goal
	next    *goals
}

// choice: a goal, and the next of the clauses by which it may be made true.
type choice struct {
	goal  *goals
	args  []cell.Value
	view  *base.View
	id    int
	rule  *cell.Rule // nil behind the last one
	taken int        // how many clauses had been taken
}

// come puts a goal ahead of all others.
func (s *search) come(goal cell.Value, slots []cell.Value, depth int) {
	s.goals = &goals{goal: goal, slots: slots, depth: depth, next: s.goals}
}

// run tells each way to make all goals true, as long as tell says that more are wanted.
func (s *search) run(tell func() bool) {
	for more := true; more; {
		s.unfold()
		if s.goals == nil {
			more = tell() && s.fail()
		} else {
			more = s.step() || s.fail()
		}
	}
}

// unfold brings a goal that has a predicate of its own to the front, if there is one.
func (s *search) unfold() {
	for s.goals != nil {
		g := s.goals
		switch {
		case g.reached != nil:
			g.reached()
			s.goals = g.next
		case g.goal == cell.Atom(truth):
			s.goals = g.next
		case cell.IsOf(g.goal, and, 2):
			_, both := cell.Parts(g.goal)
			s.goals = g.next
			s.come(both[1], g.slots, g.depth)
			s.come(both[0], g.slots, g.depth)
		default:
			return
		}
	}
}

// step makes the first goal true by the first clause that does; false, if none does.
func (s *search) step() bool {
	c := &choice{goal: s.goals, taken: len(s.taken)}
	name, args := s.built(s.goals)
	var first cell.Shape
	if len(args) > 0 {
		first = args[0].Shape()
	}
	c.args = args
	c.view, _ = s.program.base.Rules(name, len(args), first)
	c.goOn(s.program.least)
	return c.rule != nil && s.again(c)
}

// goOn leaves clauses out by which no proof is as flat as it must be.
func (c *choice) goOn(least []int) {
	c.id, c.rule = c.view.Rule()
	for c.rule != nil && least[c.id-1] > c.goal.depth {
		c.id, c.rule = c.view.Rule()
	}
}

// again finds all as it was when the choice was made, and the choice gone.
func (s *search) again(c *choice) bool {
	s.taken = s.taken[:c.taken]
	place, rule := c.id-1, c.rule
	if c.goOn(s.program.least); c.rule != nil {
		s.store.Mark()
		s.choices = append(s.choices, c)
	}
	return s.take(place, rule, c.goal, c.args)
}

// take has a goal made true by a clause, if those of its body are. If that can't be, it may have bound something.
func (s *search) take(place int, rule *cell.Rule, g *goals, args []cell.Value) bool {
	slots, ok := s.store.Enter(rule, args)
	if !ok {
		return false
	}
	s.taken = append(s.taken, place)
	s.goals = g.next
	s.come(rule.Body, slots, g.depth-1)
	return true
}

// fail goes on from the newest choice from which that can be; false, if there is none.
func (s *search) fail() bool {
	for len(s.choices) > 0 {
		newest := len(s.choices) - 1
		c := s.choices[newest]
		s.store.Back()
		s.cut(newest)
		if s.again(c) {
			return true
		}
	}
	return false
}

// cut leaves the first so many choices.
func (s *search) cut(choices int) {
	clear(s.choices[choices:])
	s.choices = s.choices[:choices]
	s.store.Keep(choices)
}

// built is the name and the Args of a goal.
func (s *search) built(g *goals) (name string, args []cell.Value) {
	name, parts := cell.Parts(g.goal)
	args = make([]cell.Value, len(parts))
	for k, part := range parts {
		args[k] = s.store.Build(part, g.slots)
	}
	return name, args
}
