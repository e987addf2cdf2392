package magic

import (
	"strings"

	"hornbook/api"
	"hornbook/model"
	"hornbook/proof"
)

const truth = "true"

// The greatest predicate that has a moded and an asked one.
const (
	mostBytes = 40
	mostArgs  = 40
)

// predicate: a name and a number of Args.
type predicate struct {
	name string
	args int
}

func predicateOf(t api.Term) predicate {
	return predicate{t.Name, len(t.Args)}
}

// rule: a flat atom, and those that are the goals of its body. The head shares the clause's memory.
type rule struct {
	head  api.Term
	goals []api.Term
}

// program: of each predicate that is derived, its rules, in their order.
type program struct {
	derived map[predicate][]rule
}

func (p *program) isDerived(atom api.Term) bool {
	_, is := p.derived[predicateOf(atom)]
	return is
}

// programOf clauses and a query that there are others for.
func programOf(l []api.Clause, query api.Term) (*program, api.Errno) {
	// Of no clauses Ask tells what is wrong with the query alone.
	_, unfit := model.Ask(nil, query)
	if unfit == api.ErrTerm {
		return nil, unfit
	}
	rules, err := rulesOf(l)
	if err != api.OK {
		return nil, err
	}
	if unfit != api.OK {
		return nil, unfit
	}
	if !areFree(rules, query) {
		return nil, api.ErrKind
	}
	p := newProgram(l, rules)
	if !p.fits(query) {
		return nil, api.ErrLarge
	}
	return p, api.OK
}

// rulesOf are the clauses as safe rules without \+. That there is one comes ahead of a rule that is not safe, wherever they stand.
func rulesOf(l []api.Clause) ([]rule, api.Errno) {
	_, err := model.Levels(l)
	if err != api.OK && err != api.ErrSafe && err != api.ErrLevel {
		return nil, err
	}
	rules := make([]rule, len(l))
	for k, c := range l {
		goals, plain := proof.Goals(c.Body)
		if plain != api.OK {
			return nil, api.ErrKind
		}
		rules[k] = rule{c.Head, goals}
	}
	if err != api.OK {
		return nil, err
	}
	return rules, api.OK
}

func newProgram(l []api.Clause, rules []rule) *program {
	p := &program{derived: map[predicate][]rule{}}
	for k, c := range l {
		// `true` and `true` has no goals, but is another body.
		if c.Body.Kind != api.Atom || c.Body.Name != truth {
			p.derived[predicateOf(rules[k].head)] = nil
		}
	}
	for _, r := range rules {
		if p.isDerived(r.head) {
			some := predicateOf(r.head)
			p.derived[some] = append(p.derived[some], r)
		}
	}
	return p
}

// areFree: are there no names that could be those of moded or asked predicates?
func areFree(rules []rule, query api.Term) bool {
	if !isFree(query) {
		return false
	}
	for _, r := range rules {
		if !isFree(r.head) {
			return false
		}
		for _, g := range r.goals {
			if !isFree(g) {
				return false
			}
		}
	}
	return true
}

func isFree(atom api.Term) bool {
	return !strings.Contains(atom.Name, caret) && !strings.HasPrefix(atom.Name, question)
}

// fits: is there room in names and Args for what is made of the predicates that are derived, and of the query's?
func (p *program) fits(query api.Term) bool {
	if !predicateOf(query).isSmall() {
		return false
	}
	for some := range p.derived {
		if !some.isSmall() {
			return false
		}
	}
	return true
}

func (p predicate) isSmall() bool {
	return len(p.name) <= mostBytes && p.args <= mostArgs
}
