package solve

import (
	"hornbook/cell"
	"hornbook/inbuilt"
)

// What is searched by itself has no list and no choices of its own: it lies ahead of an end in the list, and above a choice,
// which are one thing. So however deep such searches lie in one another, none of them is a call in another's.
type alone interface {
	end
	choice
}

// searchAlone: an answer comes to the end; when there is none any more, the choice is gone back to.
func (s *Search) searchAlone(body cell.Value, slots []cell.Value, a alone) {
	s.choose(a)
	s.goals = &goals{end: a, next: s.goals}
	s.come(body, slots, len(s.choices))
}

// condition is searched for one answer.
type condition struct {
	height          int // how many choices there were
	then, otherwise *goals
}

func (c condition) reached(s *Search) bool {
	s.cut(c.height)
	s.goals = c.then
	return true
}

func (c condition) again(s *Search) bool {
	s.goals = c.otherwise
	return true
}

// negation is searched for one answer, with which the search fails.
type negation struct {
	height int
	rest   *goals
}

func (n negation) reached(s *Search) bool {
	s.cut(n.height)
	return false
}

func (n negation) again(s *Search) bool {
	s.goals = n.rest
	return true
}

// collection is searched for all answers.
type collection struct {
	what, list cell.Value
	found      []cell.Value
	rest       *goals
}

func (c *collection) reached(s *Search) bool {
	c.found = append(c.found, s.desk.Store.Copy(c.what))
	return false
}

func (c *collection) again(s *Search) bool {
	s.goals = c.rest
	return s.desk.Store.Unify(c.list, cell.List(c.found))
}

// catching is the end of a catch, and a choice from which nothing goes on: it keeps what there was when the catch was taken.
type catching struct {
	height         int
	ball, recovery cell.Value
}

func (c *catching) reached(s *Search) bool {
	if len(s.choices) == c.height+1 {
		// No choice was left within: one goes back to this one no more.
		s.cut(c.height)
	}
	return true
}

func (c *catching) again(_ *Search) bool {
	return false
}

// throw answers nil if a ball is caught, else the ball that is not.
func (s *Search) throw(ball cell.Value) cell.Value {
	for g := s.goals; g != nil; g = g.next {
		c, is := g.end.(*catching)
		if !is {
			continue
		}
		s.cut(c.height + 1)
		s.desk.Store.Back()
		s.cut(c.height)
		s.goals = g.next
		if !s.desk.Store.Try(ball, c.ball) {
			continue
		}
		body, is := madeBody(c.recovery)
		if is {
			s.come(body, nil, len(s.choices))
			return nil
		}
		ball = inbuilt.NotCallable
	}
	return ball
}
