package solve

import (
	"hornbook/base"
	"hornbook/cell"
	"hornbook/inbuilt"
)

// goals is a list: the first goal, and those behind it. It is never changed, so that choices may share it.
// A goal is part of a rule, with what its slots are filled with, or, without slots, a term as it is.
type goals struct {
	goal  cell.Value
	slots []cell.Value
	floor int
	end   end // stands here instead of a goal
	next  *goals
}

// end is no goal, and takes no step: it stands behind all that some goal put ahead of it.
type end interface {
	// reached: all of that holds. It says whether the search goes on, and does not fail.
	reached(s *Search) bool
}

// choice is what a search goes on from if what came later fails.
type choice interface {
	// again finds all as it was when the choice was made, and the choice gone.
	// It says whether the search goes on from there, and does not fail.
	again(s *Search) bool
}

// other goes on with other goals.
type other struct {
	goals *goals
}

func (o other) again(s *Search) bool {
	s.goals = o.goals
	return true
}

// come puts a goal ahead of all others.
func (s *Search) come(goal cell.Value, slots []cell.Value, floor int) {
	s.goals = &goals{goal: goal, slots: slots, floor: floor, next: s.goals}
}

// ahead is a list with a goal in front, in the place of the goal that it is a part of.
func (g *goals) ahead(goal cell.Value, rest *goals) *goals {
	return &goals{goal: goal, slots: g.slots, floor: g.floor, next: rest}
}

func (s *Search) choose(c choice) {
	s.desk.Store.Mark()
	s.choices = append(s.choices, c)
}

// cut leaves the first so many choices.
func (s *Search) cut(floor int) {
	clear(s.choices[floor:])
	s.choices = s.choices[:floor]
	s.desk.Store.Keep(floor)
}

// fail goes on from the newest choice from which that can be; false, if there is none.
func (s *Search) fail() bool {
	for len(s.choices) > 0 {
		newest := len(s.choices) - 1
		c := s.choices[newest]
		s.desk.Store.Back()
		s.cut(newest)
		if c.again(s) {
			return true
		}
	}
	return false
}

// step takes what is first in the list: it says whether that holds, or the ball that is thrown.
func (s *Search) step() (holds bool, ball cell.Value) {
	g := s.goals
	s.goals = g.next
	if g.end != nil {
		return g.end.reached(s), nil
	}
	s.steps++
	name, parts := cell.Parts(g.goal)
	if do := controlling(name, len(parts)); do != nil {
		return do(s, g, parts)
	}
	args := s.builtAll(parts, g.slots)
	if do := inbuilt.Find(name, len(args)); do != nil {
		return do(&s.desk, args)
	}
	if do := beyondDesk(name, len(args)); do != nil {
		return do(s, args)
	}
	if base.Reserved(name, len(args)) {
		return false, inbuilt.Protected(name, len(args))
	}
	return s.call(name, args)
}

func (s *Search) built(part cell.Value, slots []cell.Value) cell.Value {
	return s.desk.Store.Build(part, slots)
}

func (s *Search) builtAll(parts, slots []cell.Value) []cell.Value {
	args := make([]cell.Value, len(parts))
	for k, part := range parts {
		args[k] = s.built(part, slots)
	}
	return args
}
