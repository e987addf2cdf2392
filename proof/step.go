package proof

import (
	"slices"

	"hornbook/api"
	"hornbook/cell"
	"hornbook/term"
)

// isFact: is it an atom or a compound without variables?
func isFact(t api.Term) bool {
	vars, err := term.Vars(t)
	return err == api.OK && len(vars) == 0 && (t.Kind == api.Atom || t.Kind == api.Comp)
}

// factProgram has each fact once, but for those that no goal can be.
func factProgram(facts []api.Term) *program {
	own := set{list: slices.Clone(facts)}
	own.tidyUp()
	var l []api.Clause
	for _, fact := range own.list {
		if isGoal(fact) {
			l = append(l, api.Clause{Head: fact, Body: api.Term{Kind: api.Atom, Name: truth}})
		}
	}
	return newProgram(l, make([][]api.Term, len(l)))
}

// follow tells the heads that follow by a clause from facts, some more than once; it is not safe if one would keep a variable.
func (p *program) follow(head api.Term, body []api.Term, tell func(head api.Term)) (safe bool) {
	s := &search{program: p}
	values := s.store.ReadAll(append([]api.Term{head}, body...)...)
	// Behind the goals that fix the head it is enough that the others can be made true, in whichever way.
	kept, fixing := 0, fixedBy(head, body)
	for k := len(body); k >= 0; k-- {
		if k == fixing {
			s.goals = &goals{reached: func() { kept = len(s.choices) }, next: s.goals}
		}
		if k > 0 {
			s.come(values[k], nil, 1)
		}
	}
	safe = true
	s.run(func() bool {
		if safe = cell.IsGround(values[0]); safe {
			tell(cell.Written(values[0]))
		}
		s.cut(kept)
		return safe
	})
	return safe
}

// fixedBy: how many goals, from the left, it takes to have all variables of a head among theirs; all, if even they have not.
func fixedBy(head api.Term, body []api.Term) int {
	vars, _ := term.Vars(head)
	left := map[int64]struct{}{}
	for _, n := range vars {
		left[n] = struct{}{}
	}
	for k, goal := range body {
		if len(left) == 0 {
			return k
		}
		vars, _ := term.Vars(goal)
		for _, n := range vars {
			delete(left, n)
		}
	}
	return len(body)
}

// set of terms. What is in it more than once goes when it has grown: so it takes no more room than the terms need.
type set struct {
	list []api.Term
	tidy int // how many there were when it was last sorted
}

// few is how many more there may be than were sorted, however few those are.
const few = 64

func (s *set) add(t api.Term) {
	s.list = append(s.list, t)
	if len(s.list) > 2*s.tidy+few {
		s.tidyUp()
	}
}

// tidyUp leaves each term once, in their order.
func (s *set) tidyUp() {
	slices.SortFunc(s.list, term.Order)
	s.list = slices.CompactFunc(s.list, func(x, y api.Term) bool { return term.Order(x, y) == 0 })
	s.tidy = len(s.list)
}
