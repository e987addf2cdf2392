package ground

// relation: what is known of a predicate.
type relation struct {
	has   []bool  // of each row, whether it was found
	fresh []int   // rows of which the goals have not heard yet
	asked []place // where it is the predicate of a goal
}

// place of a goal in a rule.
type place struct {
	rule *rule
	at   int
}

// atom: a head or a goal, as far as it matters what is ground.
type atom struct {
	of   *relation
	args []*choices // with which choices each Arg is ground
}

// goal of a rule. The choices that wait at it are those with which each goal ahead of it has a row that was found, but it has not.
type goal struct {
	atom
	waiting choices
}

// told are the rows that were found, rising.
func (r *relation) told() []int {
	var rows []int
	for row, has := range r.has {
		if has {
			rows = append(rows, row)
		}
	}
	return rows
}

// row of the atom with a choice.
func (x *atom) row(choice int) int {
	row := 0
	for k, ground := range x.args {
		row |= ground.bit(choice) << k
	}
	return row
}

// with a row: those of some choices with which the atom has it.
func (x *atom) with(row int, some choices) choices {
	for k, ground := range x.args {
		if row>>k&1 == 1 {
			some.keep(ground)
		} else {
			some.remove(ground)
		}
	}
	return some
}

// findRows goes on until no choice gives another row.
func (p *program) findRows() {
	for _, r := range p.rules {
		for choice := range 1 << r.vars {
			p.goOn(r, 0, choice)
		}
	}
	for at := 0; at < len(p.stirred); at++ {
		next := p.stirred[at]
		rows := next.fresh
		next.fresh = nil
		for _, x := range next.asked {
			for choice := range x.rule.goals[x.at].free(rows).all() {
				p.goOn(x.rule, x.at+1, choice)
			}
		}
	}
}

// goOn with a choice with which all goals ahead of a place have rows that were found.
func (p *program) goOn(r *rule, at, choice int) {
	for ; at < len(r.goals); at++ {
		g := &r.goals[at]
		if !g.of.has[g.row(choice)] {
			g.waiting.add(choice)
			return
		}
	}
	p.find(r.head.of, r.head.row(choice))
}

// free those choices that wait with which the goal has one of some rows. Those that have the same row are taken at once:
// a predicate may have so many goals, and come to have its rows so slowly, that to look at each choice each time would take long.
func (g *goal) free(rows []int) *choices {
	var freed choices
	if g.waiting == freed {
		return &freed
	}
	for _, row := range rows {
		same := g.with(row, g.waiting)
		freed.join(&same)
	}
	g.waiting.remove(&freed)
	return &freed
}

func (p *program) find(of *relation, row int) {
	if of.has[row] {
		return
	}
	of.has[row] = true
	if len(of.fresh) == 0 {
		p.stirred = append(p.stirred, of)
	}
	of.fresh = append(of.fresh, row)
}
