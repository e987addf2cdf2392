package ground

import (
	"hornbook/api"
	"hornbook/term"
)

// predicate: a name and a number of Args.
type predicate struct {
	name string
	args int
}

// program: rules, and what is known of the predicates of their heads and goals.
type program struct {
	rules     []*rule
	relations map[predicate]*relation
	grounds   map[int]*choices // by masks of variables: the choices with which all of them are ground
	stirred   []*relation      // those that came to have fresh rows, in that order
}

// rule: a clause, as far as it matters what is ground.
type rule struct {
	head  atom
	goals []goal
	vars  int
}

func newProgram(l []clause) *program {
	p := &program{relations: map[predicate]*relation{}, grounds: map[int]*choices{}}
	for _, c := range l {
		p.add(c)
	}
	return p
}

func (p *program) add(c clause) {
	r := &rule{head: p.atomOf(c.head), goals: make([]goal, len(c.goals)), vars: c.vars}
	for k, t := range c.goals {
		g := &r.goals[k]
		g.atom = p.atomOf(t)
		g.of.asked = append(g.of.asked, place{r, k})
	}
	p.rules = append(p.rules, r)
}

func (p *program) atomOf(t api.Term) atom {
	x := atom{of: p.relationOf(t), args: make([]*choices, len(t.Args))}
	for k, arg := range t.Args {
		x.args[k] = p.groundOf(arg)
	}
	return x
}

// relationOf an atom's predicate, a new one if it was not met before.
func (p *program) relationOf(t api.Term) *relation {
	some := predicate{t.Name, len(t.Args)}
	r, is := p.relations[some]
	if !is {
		r = &relation{has: make([]bool, 1<<some.args)}
		p.relations[some] = r
	}
	return r
}

// groundOf an Arg: the choices with which it is ground. Args with the same variables share them: of such choices there are few, of Args many.
func (p *program) groundOf(arg api.Term) *choices {
	mask := 0
	vars, _ := term.Vars(arg)
	for _, n := range vars {
		mask |= 1 << n
	}
	s, is := p.grounds[mask]
	if !is {
		all := allGround(mask)
		s = &all
		p.grounds[mask] = s
	}
	return s
}
