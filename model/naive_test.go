package model_test

import (
	"slices"
	"strconv"

	"hornbook/api"
	"hornbook/base"
	"hornbook/term"
)

// The document's chapter, word by word, however long it takes.

// literal: a goal, without its \+ if it has one.
type literal struct {
	atom    api.Term
	negated bool
}

func naiveFlat(t api.Term) bool {
	if !isCallable(t) || isReserved(t) {
		return false
	}
	for _, arg := range t.Args {
		if isOf(arg, arg.Name, len(arg.Args)) && arg.Kind != api.Atom {
			return false
		}
	}
	return true
}

// naiveGoals are the goals of the body of a rule.
func naiveGoals(body api.Term) ([]literal, bool) {
	switch {
	case isOf(body, ",", 2):
		first, ok := naiveGoals(body.Args[0])
		second, also := naiveGoals(body.Args[1])
		return slices.Concat(first, second), ok && also
	case isOf(body, "true", 0):
		return nil, true
	case isOf(body, "\\+", 1) && naiveFlat(body.Args[0]):
		return []literal{{body.Args[0], true}}, true
	case naiveFlat(body):
		return []literal{{body, false}}, true
	}
	return nil, false
}

func goalsOf(x api.Clause) []literal {
	l, _ := naiveGoals(x.Body)
	return l
}

func naiveSafe(x api.Clause) bool {
	var positive []int64
	for _, g := range goalsOf(x) {
		if !g.negated {
			vars, _ := term.Vars(g.atom)
			positive = append(positive, vars...)
		}
	}
	all, _ := term.Vars(c(":-", x.Head, x.Body))
	return !slices.ContainsFunc(all, func(n int64) bool { return !slices.Contains(positive, n) })
}

// naiveError: what P25 tells of clauses, but for ErrLevel.
func naiveError(l []api.Clause) api.Errno {
	for _, x := range l {
		if _, err := base.Plain(x); err != api.OK {
			return err
		}
	}
	for _, x := range l {
		if _, is := naiveGoals(x.Body); !is || !naiveFlat(x.Head) {
			return api.ErrKind
		}
	}
	for _, x := range l {
		if !naiveSafe(x) {
			return api.ErrSafe
		}
	}
	return api.OK
}

func predicateOf(t api.Term) string { return t.Name + "/" + strconv.Itoa(len(t.Args)) }

// naiveLevels: levels are raised as long as one is too low; none is above the number of predicates, if there are levels at all.
func naiveLevels(l []api.Clause) ([]api.Stratum, api.Errno) {
	if err := naiveError(l); err != api.OK {
		return nil, err
	}
	var list []api.Stratum
	places := map[string]int{}
	meet := func(t api.Term) {
		if _, met := places[predicateOf(t)]; !met {
			places[predicateOf(t)] = len(list)
			list = append(list, api.Stratum{Name: t.Name, N: len(t.Args)})
		}
	}
	for _, x := range l {
		meet(x.Head)
		for _, g := range goalsOf(x) {
			meet(g.atom)
		}
	}
	for raised := true; raised; {
		raised = false
		for _, x := range l {
			head := &list[places[predicateOf(x.Head)]]
			for _, g := range goalsOf(x) {
				need := list[places[predicateOf(g.atom)]].Level
				if g.negated {
					need++
				}
				if head.Level < need {
					head.Level, raised = need, true
				}
			}
			if head.Level > len(list) {
				return nil, api.ErrLevel
			}
		}
	}
	slices.SortFunc(list, func(x, y api.Stratum) int {
		if x.N != y.N {
			return x.N - y.N
		}
		if x.Name < y.Name {
			return -1
		}
		return 1
	})
	return list, api.OK
}

// instances of a clause: with each constant that there is for each variable.
func instances(x api.Clause, constants []api.Term) []api.Clause {
	whole := c(":-", x.Head, x.Body)
	all := []api.Term{whole}
	vars, _ := term.Vars(whole)
	for _, n := range vars {
		var more []api.Term
		for _, t := range all {
			for _, to := range constants {
				filled, _ := term.Apply(t, []api.Bind{{Var: n, To: to}})
				more = append(more, filled)
			}
		}
		all = more
	}
	l := make([]api.Clause, len(all))
	for k, t := range all {
		l[k] = rule(t.Args[0], t.Args[1])
	}
	return l
}

func constantsOf(l []api.Clause) []api.Term {
	var all []api.Term
	for _, x := range l {
		atoms := []api.Term{x.Head}
		for _, g := range goalsOf(x) {
			atoms = append(atoms, g.atom)
		}
		for _, t := range atoms {
			for _, arg := range t.Args {
				if arg.Kind != api.Var && !slices.ContainsFunc(all, func(x api.Term) bool { return same(x, arg) }) {
					all = append(all, arg)
				}
			}
		}
	}
	return all
}

// naiveModel: level by level the least set with which each rule holds.
func naiveModel(l []api.Clause) ([]api.Term, api.Errno) {
	levels, err := naiveLevels(l)
	if err != api.OK {
		return nil, err
	}
	levelOf := map[string]int{}
	for _, x := range levels {
		levelOf[x.Name+"/"+strconv.Itoa(x.N)] = x.Level
	}
	constants := constantsOf(l)
	var all []api.Clause
	for _, x := range l {
		all = append(all, instances(x, constants)...)
	}
	model := map[string]api.Term{}
	for level := range len(levels) {
		for more := true; more; {
			more = false
			for _, x := range all {
				if levelOf[predicateOf(x.Head)] == level && !isIn(model, x.Head) && hold(model, goalsOf(x)) {
					model[show(x.Head)], more = x.Head, true
				}
			}
		}
	}
	return sorted(model), api.OK
}

func isIn(model map[string]api.Term, fact api.Term) bool {
	_, is := model[show(fact)]
	return is
}

func hold(model map[string]api.Term, goals []literal) bool {
	return !slices.ContainsFunc(goals, func(g literal) bool { return isIn(model, g.atom) == g.negated })
}

func sorted(model map[string]api.Term) []api.Term {
	var list []api.Term
	for _, fact := range model {
		list = append(list, fact)
	}
	slices.SortFunc(list, func(x, y api.Term) int {
		order, _ := term.Compare(x, y)
		return order
	})
	return list
}

// naiveAsk: those facts of a model that a query matches.
func naiveAsk(model []api.Term, query api.Term) []api.Term {
	var list []api.Term
	for _, fact := range model {
		if _, is, _ := term.Match(query, fact); is {
			list = append(list, fact)
		}
	}
	return list
}

// matched tells each way to make goals without \+ facts of a model, with what their variables are then.
func matched(model map[string][]api.Term, goals []literal, vars map[int64]api.Term, tell func()) {
	for len(goals) > 0 && goals[0].negated {
		goals = goals[1:]
	}
	if len(goals) == 0 {
		tell()
		return
	}
	for _, fact := range model[predicateOf(goals[0].atom)] {
		var own []int64
		fits := true
		for k, arg := range goals[0].atom.Args {
			if arg.Kind != api.Var {
				fits = fits && same(arg, fact.Args[k])
			} else if is, met := vars[arg.N]; met {
				fits = fits && same(is, fact.Args[k])
			} else {
				vars[arg.N] = fact.Args[k]
				own = append(own, arg.N)
			}
		}
		if fits {
			matched(model, goals[1:], vars, tell)
		}
		for _, n := range own {
			delete(vars, n)
		}
	}
}

// filled is a flat atom with what its variables are.
func filled(atom api.Term, vars map[int64]api.Term) api.Term {
	t := api.Term{Kind: atom.Kind, Name: atom.Name}
	for _, arg := range atom.Args {
		if arg.Kind == api.Var {
			arg = vars[arg.N]
		}
		t.Args = append(t.Args, arg)
	}
	return t
}

// joinedModel is the model of clauses that have one, by going through facts and not through all that there might be.
func joinedModel(l []api.Clause) []api.Term {
	levels, _ := naiveLevels(l)
	levelOf := map[string]int{}
	for _, x := range levels {
		levelOf[x.Name+"/"+strconv.Itoa(x.N)] = x.Level
	}
	all, byPredicate := map[string]api.Term{}, map[string][]api.Term{}
	for level := range len(levels) {
		for more := true; more; {
			more = false
			for _, x := range l {
				if levelOf[predicateOf(x.Head)] != level {
					continue
				}
				goals, vars := goalsOf(x), map[int64]api.Term{}
				var heads []api.Term
				matched(byPredicate, goals, vars, func() {
					for _, g := range goals {
						if g.negated && isIn(all, filled(g.atom, vars)) {
							return
						}
					}
					heads = append(heads, filled(x.Head, vars))
				})
				for _, head := range heads {
					if !isIn(all, head) {
						all[show(head)], more = head, true
						byPredicate[predicateOf(head)] = append(byPredicate[predicateOf(head)], head)
					}
				}
			}
		}
	}
	return sorted(all)
}
