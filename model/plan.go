package model

import (
	"slices"

	"hornbook/api"
)

// plan: a rule, with its goals in the order in which they are gone through.
type plan struct {
	head  *relation
	fact  []source // what is told, when all goals are true
	steps []step
	slots []uint32 // what the variables are
	fixed int      // the last step that says what a variable of the head is, or none
	fresh []int32  // the new facts of the goal that is gone through for them alone
	text  []byte
	kept  int  // how much the memos have in all
	due   bool // is it to be run?
}

// source: what stands in an Arg: the number of a constant, or what the variable of a slot is.
type source struct {
	number uint32
	slot   int // none, if it is a constant
}

// column of a fact, and what stands in an Arg there.
type column struct {
	at int
	source
}

// Ways to go through the facts of a goal.
const (
	scan   = iota // all of them
	fresh         // new ones
	chain         // those that an index tells
	exact         // the only one that it can be
	absent        // there must be none
)

// step: a goal.
type step struct {
	from   *relation
	way    int
	older  bool // are those left out that are new?
	by     *index
	key    []source // of what is looked for
	fills  []column // what variables become
	checks []column // what must stand there, when that is done
	once   bool     // is one fact as good as others?
	memo   *memo
	text   []byte
	at     int // the next row, or none
	end    int // the first row that is not gone through
}

// plan of a rule: from all facts, or from new ones of its first goal.
func (f *following) plan(r rule, first int) *plan {
	p := &plan{head: f.relationOf(r.head), fact: f.sources(r.head), slots: make([]uint32, r.vars()), fixed: none}
	order := f.order(r, first)
	known := make([]bool, r.vars()) // is it known what a variable is?
	for _, k := range order {
		g := r.goals[k]
		s := step{from: f.relationOf(g.atom)}
		switch {
		case k == first:
			s.way = fresh
		case g.negated:
			s.way = absent
		case k < first:
			// Else new facts of both would be met twice, once for each of the two goals.
			s.older = s.from == f.relationOf(r.goals[first].atom)
		}
		s.lay(f.sources(g.atom), known)
		p.steps = append(p.steps, s)
	}
	p.look(r, order)
	return p
}

// sources of the Args of a flat atom.
func (f *following) sources(atom api.Term) []source {
	list := make([]source, len(atom.Args))
	for k, arg := range atom.Args {
		list[k] = source{slot: int(arg.N)}
		if arg.Kind != api.Var {
			list[k] = source{slot: none, number: f.constants.numbers[constantOf(arg)]}
		}
	}
	return list
}

// lay says how the facts of a goal are gone through, of which some variables are known; then all of them are.
func (s *step) lay(args []source, known []bool) {
	var given, open []column
	for at, arg := range args {
		if arg.slot == none || known[arg.slot] {
			given = append(given, column{at, arg})
		} else {
			open = append(open, column{at, arg})
		}
	}
	s.choose(given, len(open) == 0)
	for _, c := range open {
		if known[c.slot] {
			s.checks = append(s.checks, c)
		} else {
			s.fills = append(s.fills, c)
			known[c.slot] = true
		}
	}
}

// choose the way in which columns that are given are used, if it is not set.
func (s *step) choose(given []column, all bool) {
	switch {
	case s.way != scan:
	case all:
		s.way = exact
	case len(given) > 0:
		s.by = s.from.indexOn(places(given))
		if s.by != nil {
			s.way = chain
		}
	}
	for _, c := range given {
		if s.isKey(c.at) {
			s.key = append(s.key, c.source)
		} else {
			s.checks = append(s.checks, c)
		}
	}
}

// isKey: is a column that is given found by, and not only looked at?
func (s *step) isKey(at int) bool {
	switch s.way {
	case exact, absent:
		return true
	case chain:
		return isAmong([]int{at}, s.by.columns)
	}
	return false
}

func places(list []column) []int {
	numbers := make([]int, len(list))
	for k, c := range list {
		numbers[k] = c.at
	}
	return numbers
}

// isBranching: may it go on in several ways?
func (s *step) isBranching() bool {
	return s.way != exact && s.way != absent && !s.once
}

// says: is it this step that says what a variable is?
func (s *step) says(n int) bool {
	return slices.ContainsFunc(s.fills, func(c column) bool { return c.slot == n })
}

// look says where what was found need not be found again.
func (p *plan) look(r rule, order []int) {
	last := make([]int, len(p.slots)) // of each variable, the last step that asks for it
	for depth, k := range order {
		for _, n := range varsOf(r.goals[k].atom) {
			last[n] = depth
		}
	}
	for _, n := range varsOf(r.head) {
		last[n] = len(order)
	}
	branching := none
	for depth := range p.steps {
		s := &p.steps[depth]
		s.once = true
		for _, c := range s.fills {
			s.once = s.once && last[c.slot] == depth
			if last[c.slot] == len(order) {
				p.fixed = depth
			}
		}
		if s.isBranching() {
			branching = depth
		}
	}
	asked := asked{last: last, places: make([]int, len(last))}
	for depth, k := range order {
		if s := &p.steps[depth]; asked.come(s, varsOf(r.goals[k].atom), depth) && depth < branching && len(asked.slots) <= widest {
			s.memo = &memo{slots: append([]int(nil), asked.slots...)}
		}
	}
}

// asked: the variables that are known and that some later goal, or the head, asks for.
type asked struct {
	last   []int // of each variable, the last step that asks for it
	slots  []int
	places []int // of each of these, where it stands there
}

// come to a step with some variables. Dropped: do several ways lead on in the same way from here, as it is not asked any more what some
// variables are?
func (a *asked) come(s *step, vars []int, depth int) (dropped bool) {
	for _, c := range s.fills {
		a.places[c.slot] = len(a.slots)
		a.slots = append(a.slots, c.slot)
	}
	for _, n := range vars {
		if a.last[n] != depth {
			continue
		}
		// Of what the step itself says there is but one way, if it is done once.
		dropped = dropped || !s.once || !s.says(n)
		at, end := a.places[n], len(a.slots)-1
		a.slots[at] = a.slots[end]
		a.places[a.slots[at]] = at
		a.slots = a.slots[:end]
	}
	return dropped
}
