package ground

import (
	"slices"

	"hornbook/api"
	"hornbook/base"
	"hornbook/proof"
	"hornbook/term"
)

// The most that there may be of a clause's variables, and of a predicate's Args.
const (
	mostVars = 10
	mostArgs = 8
)

// clause: a head and the goals of a body, and how many variables they have. The head shares memory with what was handed in.
type clause struct {
	head  api.Term
	goals []api.Term
	vars  int
}

// clausesOf a list. That one is none goes ahead of a body that is not plain, and that ahead of one that is too large, wherever they stand.
func clausesOf(l []api.Clause) ([]clause, api.Errno) {
	list := make([]clause, len(l))
	for k, c := range l {
		whole, err := base.Plain(c)
		if err != api.OK {
			return nil, err
		}
		vars, _ := term.Vars(whole)
		list[k] = clause{head: c.Head, vars: len(vars)}
	}
	for k, c := range l {
		goals, err := proof.Goals(c.Body)
		if err != api.OK {
			return nil, err
		}
		list[k].goals = goals
	}
	if slices.ContainsFunc(list, clause.isLarge) {
		return nil, api.ErrLarge
	}
	return list, api.OK
}

// isLarge: are there more variables, or more Args of a predicate, than it may have?
func (c clause) isLarge() bool {
	return c.vars > mostVars || len(c.head.Args) > mostArgs ||
		slices.ContainsFunc(c.goals, func(goal api.Term) bool { return len(goal.Args) > mostArgs })
}
