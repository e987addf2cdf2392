package magic

import (
	"hornbook/api"
	"hornbook/base"
)

// writer of the rules that ask for less.
type writer struct {
	*program
	list  []api.Clause
	queue []wanted // in the order in which they came up
	met   map[wanted]struct{}
}

// wanted: a predicate that is derived, with a mode in which a goal asks for it.
type wanted struct {
	predicate
	mode string
}

func (w *writer) want(atom api.Term, mode string) {
	x := wanted{predicateOf(atom), mode}
	if _, again := w.met[x]; again {
		return
	}
	w.met[x] = struct{}{}
	w.queue = append(w.queue, x)
}

// copyFacts adds the clauses of predicates that are not derived.
func (w *writer) copyFacts(l []api.Clause) {
	for _, c := range l {
		if !w.isDerived(c.Head) {
			w.list = append(w.list, copyOf(c))
		}
	}
}

// answerWanted adds the rules of all that is wanted, also of what comes up on the way.
func (w *writer) answerWanted() {
	for at := 0; at < len(w.queue); at++ {
		x := w.queue[at]
		for _, r := range w.derived[x.predicate] {
			w.answer(r, x.mode)
		}
	}
}

// answer adds a rule whose head is in a mode, behind those that ask for its goals.
func (w *writer) answer(r rule, mode string) {
	known := variables{}
	asking := asked(r.head, mode)
	known.learn(asking)
	goals := []api.Term{asking}
	for _, g := range r.goals {
		if w.isDerived(g) {
			mode := known.mode(g)
			w.want(g, mode)
			w.add(asked(g, mode), goals)
			goals = append(goals, moded(g, mode))
		} else {
			goals = append(goals, g)
		}
		known.learn(g)
	}
	w.add(moded(r.head, mode), goals)
}

func (w *writer) add(head api.Term, goals []api.Term) {
	w.list = append(w.list, clauseOf(head, goals))
}

// clauseOf a head and goals. Make takes it: no name that it has is reserved, and none is too long.
func clauseOf(head api.Term, goals []api.Term) api.Clause {
	t := head
	if len(goals) > 0 {
		t = compound(":-", head, joined(goals))
	}
	c, _ := base.Make(t)
	return c
}

// joined are the goals of a body, of which there is one at least.
func joined(goals []api.Term) api.Term {
	last := len(goals) - 1
	body := goals[last]
	for k := last - 1; k >= 0; k-- {
		body = compound(",", goals[k], body)
	}
	return body
}

func compound(name string, args ...api.Term) api.Term {
	return api.Term{Kind: api.Comp, Name: name, Args: args}
}
