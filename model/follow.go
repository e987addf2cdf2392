package model

import (
	"cmp"
	"slices"

	"hornbook/api"
)

// following: what follows from a program, predicate by predicate.
type following struct {
	*program
	constants constants
	relations []*relation // of each predicate
	waiting   []*relation // those that have facts from which is to be gone on
	due       []*plan     // those that are to be run from all facts, when no relation is waiting
}

func newFollowing(p *program) *following {
	f := &following{program: p, constants: constantsOf(p.rules), relations: make([]*relation, len(p.numbers))}
	for some, number := range p.numbers {
		f.relations[number] = &relation{predicate: some, facts: map[string]int32{}}
	}
	return f
}

func (f *following) relationOf(atom api.Term) *relation {
	return f.relations[f.numbers[predicateOf(atom)]]
}

// follow finds all facts of the predicates of some components, each of which must come behind those that it leans on.
// So of what a goal with \+ asks for all facts are there.
func (f *following) follow(list [][]int) {
	for _, component := range list {
		some := make([]*relation, len(component))
		for k, number := range component {
			some[k] = f.relations[number]
			some[k].growing = true
		}
		f.begin(component)
		for _, r := range some {
			f.grown(r)
		}
		f.goOn()
		for _, r := range some {
			r.growth = growth{}
		}
	}
}

// begin finds what follows by the rules of some predicates that do not lean on these, and lays the others ready.
func (f *following) begin(component []int) {
	var again []rule
	for _, number := range component {
		for _, k := range f.byHead[number] {
			if r := f.rules[k]; len(f.growingGoals(r)) > 0 {
				again = append(again, r)
			} else {
				f.once(r)
			}
		}
	}
	for _, r := range again {
		f.layReady(r)
	}
}

// growingGoals are the places of goals of which there may be more facts.
func (f *following) growingGoals(r rule) []int {
	var list []int
	for k, g := range r.goals {
		if f.relationOf(g.atom).growing {
			list = append(list, k)
		}
	}
	return list
}

// once adds what follows by a rule from facts that there will be no more of.
func (f *following) once(r rule) {
	if len(r.goals) > 0 {
		f.plan(r, none).run()
		return
	}
	fact := make([]byte, 0, width*len(r.head.Args))
	for _, arg := range r.head.Args {
		fact = appendNumber(fact, f.constants.numbers[constantOf(arg)])
	}
	f.relationOf(r.head).add(fact)
}

// manyGoals: a rule with more goals that are growing is not run for each of them, as that would take long, and much room, if they are very many.
const manyGoals = 16

// layReady has relations know which plans are to be run when they have grown.
func (f *following) layReady(r rule) {
	growing := f.growingGoals(r)
	if len(growing) <= manyGoals {
		for _, k := range growing {
			goal := r.goals[k].atom
			f.relationOf(goal).await(f.plan(r, k), f.sources(goal))
		}
		return
	}
	p := f.plan(r, none)
	for _, k := range growing {
		from := f.relationOf(r.goals[k].atom)
		if !slices.Contains(from.wholes[max(0, len(from.wholes)-1):], p) {
			from.wholes = append(from.wholes, p)
		}
	}
}

// grown has a relation wait if there are new facts of it.
func (f *following) grown(r *relation) {
	if !r.waiting && r.growing && len(r.rows) > r.done {
		r.waiting = true
		f.waiting = append(f.waiting, r)
	}
}

func (f *following) goOn() {
	for len(f.waiting) > 0 || len(f.due) > 0 {
		if len(f.waiting) > 0 {
			r := f.waiting[0]
			f.waiting = f.waiting[1:]
			f.goOnFrom(r)
			continue
		}
		p := f.due[0]
		f.due = f.due[1:]
		p.due = false
		p.run()
		f.grown(p.head)
	}
}

// goOnFrom goes on from the new facts of a relation.
func (f *following) goOnFrom(r *relation) {
	r.waiting = false
	r.older, r.done = r.done, len(r.rows)
	for _, p := range r.awaited() {
		p.run()
		p.fresh = p.fresh[:0]
		f.grown(p.head)
	}
	for _, p := range r.wholes {
		if !p.due {
			p.due = true
			f.due = append(f.due, p)
		}
	}
}

// told are the facts of some predicates as terms, in the order of terms.
func (f *following) told(numbers []int) []api.Term {
	some := make([]*relation, len(numbers))
	count := 0
	for k, number := range numbers {
		some[k] = f.relations[number]
		count += len(some[k].facts)
	}
	slices.SortFunc(some, func(a, b *relation) int {
		return cmp.Or(cmp.Compare(a.args, b.args), cmp.Compare(a.name, b.name))
	})
	list := make([]api.Term, 0, count)
	for _, r := range some {
		for _, fact := range r.sorted() {
			list = append(list, r.term(fact, f.constants))
		}
	}
	return list
}
