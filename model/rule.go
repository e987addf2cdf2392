package model

import (
	"hornbook/api"
	"hornbook/base"
)

const (
	truth = "true"
	and   = ","
	not   = "\\+"
)

// predicate: a name and a number of Args.
type predicate struct {
	name string
	args int
}

func predicateOf(t api.Term) predicate {
	return predicate{t.Name, len(t.Args)}
}

// goal: a flat atom, or \+ of one.
type goal struct {
	atom    api.Term
	negated bool
}

// rule: a flat atom and the goals of a body. It shares the clause's memory.
type rule struct {
	head  api.Term
	goals []goal
}

// isFlat: is it a flat atom?
func isFlat(t api.Term) bool {
	if t.Kind != api.Atom && t.Kind != api.Comp || base.Reserved(t.Name, len(t.Args)) {
		return false
	}
	for _, arg := range t.Args {
		if arg.Kind == api.Comp {
			return false
		}
	}
	return true
}

// rulesOf are the clauses as safe rules. That one is no clause goes ahead of one that is no rule, and that ahead of one that is not safe,
// wherever they stand.
func rulesOf(l []api.Clause) ([]rule, api.Errno) {
	for _, c := range l {
		if _, err := base.Plain(c); err != api.OK {
			return nil, err
		}
	}
	rules := make([]rule, len(l))
	for k, c := range l {
		goals, are := goalsOf(c.Body)
		if !are || !isFlat(c.Head) {
			return nil, api.ErrKind
		}
		rules[k] = rule{c.Head, goals}
	}
	for _, r := range rules {
		if !r.isSafe() {
			return nil, api.ErrSafe
		}
	}
	return rules, api.OK
}

// goalsOf are the goals of a body, and whether they are such as a rule may have.
func goalsOf(body api.Term) (goals []goal, are bool) {
	left := []api.Term{body}
	for len(left) > 0 {
		t := left[len(left)-1]
		left = left[:len(left)-1]
		switch {
		case t.Kind == api.Comp && predicateOf(t) == predicate{and, 2}:
			left = append(left, t.Args[1], t.Args[0])
		case t.Kind == api.Atom && t.Name == truth:
		case t.Kind == api.Comp && predicateOf(t) == predicate{not, 1} && isFlat(t.Args[0]):
			goals = append(goals, goal{t.Args[0], true})
		case isFlat(t):
			goals = append(goals, goal{t, false})
		default:
			return nil, false
		}
	}
	return goals, true
}

// isSafe: does each variable stand in a goal without \+?
func (r rule) isSafe() bool {
	bound := map[int64]struct{}{}
	for _, g := range r.goals {
		for _, arg := range g.atom.Args {
			if arg.Kind == api.Var && !g.negated {
				bound[arg.N] = struct{}{}
			}
		}
	}
	areBound := func(t api.Term) bool {
		for _, arg := range t.Args {
			if _, is := bound[arg.N]; arg.Kind == api.Var && !is {
				return false
			}
		}
		return true
	}
	for _, g := range r.goals {
		if !areBound(g.atom) {
			return false
		}
	}
	return areBound(r.head)
}

// vars: how many variables it has. They are numbered from 0 on, as in every clause.
func (r rule) vars() int {
	most := 0
	for _, g := range r.goals {
		for _, arg := range g.atom.Args {
			if arg.Kind == api.Var {
				most = max(most, int(arg.N)+1)
			}
		}
	}
	return most
}
