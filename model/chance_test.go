package model_test

import (
	"slices"
	"strings"
	"testing"

	"hornbook/api"
	"hornbook/base"
	"hornbook/model"
	"hornbook/proof"
	"hornbook/solve"
	"hornbook/term"
)

// arg of a flat atom.
func (x *chance) arg(vars int) api.Term {
	if vars > 0 && x.below(8) > 0 {
		return v(int64(x.below(vars)))
	}
	return pick(x, a("a"), a("b"), i(1))
}

// atom is a flat one, of one of few predicates.
func (x *chance) atom(vars int) api.Term {
	name := pick(x, "p", "q", "r", "s", "t")
	switch name {
	case "p":
		return a("p")
	case "q", "r":
		return c(name, x.arg(vars))
	case "s":
		return c(name, x.arg(vars), x.arg(vars), x.arg(vars))
	}
	return c(pick(x, "t", "u"), x.arg(vars), x.arg(vars))
}

// rule is a safe one, of at most so many goals; those with \+ may be asked to come last.
func (x *chance) rule(goals, negated int, last bool) api.Clause {
	for {
		vars := pick(x, 1, 2, 3)
		var l []api.Term
		for range goals {
			l = append(l, x.atom(vars))
		}
		for range negated {
			l = append(l, not(x.atom(vars)))
		}
		if !last {
			for k := range l {
				m := x.below(k + 1)
				l[k], l[m] = l[m], l[k]
			}
		}
		made, err := base.Make(c(":-", x.atom(vars), x.body(l)))
		if err == api.OK && naiveSafe(made) {
			return made
		}
	}
}

// body of goals, joined in some way, and now and then a `true` among them.
func (x *chance) body(l []api.Term) api.Term {
	if x.below(9) == 0 {
		return pick(x, c(",", a("true"), x.body(l)), c(",", x.body(l), a("true")))
	}
	switch len(l) {
	case 0:
		return a("true")
	case 1:
		return l[0]
	}
	k := 1 + x.below(len(l)-1)
	return c(",", x.body(l[:k]), x.body(l[k:]))
}

// program has facts and rules, with \+ in one of so many; there may be no levels.
func (x *chance) program(oneOf int, last bool) []api.Clause {
	var l []api.Clause
	for range x.below(pick(x, 4, 10, 16)) {
		l = append(l, fact(x.atom(0)))
	}
	for range x.below(9) {
		negated := 0
		if oneOf > 0 && x.below(oneOf) == 0 {
			negated = pick(x, 1, 1, 2)
		}
		l = append(l, x.rule(pick(x, 0, 1, 1, 2, 2, 3, 4), negated, last))
	}
	for k := range l {
		m := x.below(k + 1)
		l[k], l[m] = l[m], l[k]
	}
	return l
}

// TestModelByChance holds all calls against the document, word by word.
func TestModelByChance(t *testing.T) {
	t.Parallel()
	x := chance(31)
	kinds, many, levels := map[api.Errno]int{}, 0, 0
	for round := range 8000 {
		l := x.program(pick(&x, 0, 3, 5), false)
		wantLevels, wantErr := naiveLevels(l)
		gotLevels, err := model.Levels(l)
		if err != wantErr || showLevels(gotLevels) != showLevels(wantLevels) {
			t.Fatalf("round %d: of\n%s%s, %v, not %s, %v", round, showClauses(l), showLevels(gotLevels), err, showLevels(wantLevels), wantErr)
		}
		want, wantErr := naiveModel(l)
		got, err := model.Model(l)
		if err != wantErr || showTerms(got) != showTerms(want) {
			t.Fatalf("round %d: of\n%s%s, %v, not %s, %v", round, showClauses(l), showTerms(got), err, showTerms(want), wantErr)
		}
		for range 5 {
			query := x.atom(3)
			wantFew := naiveAsk(want, query)
			few, err := model.Ask(l, query)
			if err != wantErr || showTerms(few) != showTerms(wantFew) {
				t.Fatalf("round %d: of\n%s%s: %s, %v, not %s, %v", round, showClauses(l), show(query), showTerms(few), err, showTerms(wantFew), wantErr)
			}
		}
		kinds[err]++
		if len(got) > 10 {
			many++
		}
		if slices.ContainsFunc(gotLevels, func(x api.Stratum) bool { return x.Level > 1 }) {
			levels++
		}
	}
	if kinds[api.OK] < 4000 || kinds[api.ErrLevel] < 1000 || many < 200 || levels < 40 {
		t.Error(kinds, many, levels)
	}
}

// TestErrorsByChance: of clauses that are no rules, or not safe, or none, among others.
func TestErrorsByChance(t *testing.T) {
	t.Parallel()
	x := chance(32)
	kinds := map[api.Errno]int{}
	odd := slices.Concat(none, wrong, noRules, notSafe, loops)
	for range 10000 {
		l := x.program(4, false)
		for range x.below(3) {
			l = slices.Insert(l, x.below(len(l)+1), odd[x.below(len(odd))])
		}
		want, wantErr := naiveLevels(l)
		got, err := model.Levels(l)
		if err != wantErr || showLevels(got) != showLevels(want) {
			t.Fatalf("of\n%s%s, %v, not %s, %v", showClauses(l), showLevels(got), err, showLevels(want), wantErr)
		}
		if _, err := model.Model(l); err != wantErr {
			t.Fatalf("of\n%s%v, not %v", showClauses(l), err, wantErr)
		}
		if _, err := model.Ask(l, a("p")); err != wantErr {
			t.Fatalf("of\n%s%v, not %v", showClauses(l), err, wantErr)
		}
		kinds[err]++
	}
	for _, err := range []api.Errno{api.OK, api.ErrTerm, api.ErrClause, api.ErrKind, api.ErrSafe, api.ErrLevel} {
		if kinds[err] < 300 {
			t.Error(err, kinds)
		}
	}
}

// TestOrderOfClauses: it says nothing, and neither does the order of goals, or that something is there twice.
func TestOrderOfClauses(t *testing.T) {
	t.Parallel()
	x := chance(33)
	for range 3000 {
		l := x.program(4, false)
		levels, wantErr := model.Levels(l)
		facts, _ := model.Model(l)
		for range 4 {
			other := slices.Clone(l)
			for k := range other {
				m := x.below(k + 1)
				other[k], other[m] = other[m], other[k]
			}
			for k, some := range other {
				var goals []api.Term
				for _, g := range goalsOf(some) {
					if g.negated {
						g.atom = not(g.atom)
					}
					goals = slices.Insert(goals, x.below(len(goals)+1), g.atom)
				}
				if len(goals) > 0 && x.below(3) == 0 {
					goals = append(goals, goals[x.below(len(goals))])
				}
				other[k] = made(t, some.Head, goals...)
			}
			if len(other) > 0 && x.below(2) == 0 {
				other = append(other, other[x.below(len(other))])
			}
			got, err := model.Levels(other)
			if err != wantErr || showLevels(got) != showLevels(levels) {
				t.Fatalf("of\n%s%s, %v, and of\n%s%s, %v", showClauses(l), showLevels(levels), wantErr, showClauses(other), showLevels(got), err)
			}
			if got, err := model.Model(other); err != wantErr || showTerms(got) != showTerms(facts) {
				t.Fatalf("of\n%s%s, %v, and of\n%s%s, %v", showClauses(l), showTerms(facts), wantErr, showClauses(other), showTerms(got), err)
			}
		}
	}
}

// TestModelIsStable: what follows from those instances of rules whose goals with \+ hold in the model is just the model.
func TestModelIsStable(t *testing.T) {
	t.Parallel()
	x := chance(34)
	held := 0
	for round := range 4000 {
		l := x.program(3, false)
		facts, err := model.Model(l)
		if err != api.OK {
			continue
		}
		inModel := map[string]api.Term{}
		for _, f := range facts {
			inModel[show(f)] = f
		}
		var reduced []api.Clause
		for _, some := range l {
			for _, y := range instances(some, constantsOf(l)) {
				var goals []api.Term
				var negated []literal
				for _, g := range goalsOf(y) {
					if g.negated {
						negated = append(negated, g)
					} else {
						goals = append(goals, g.atom)
					}
				}
				if hold(inModel, negated) {
					reduced = append(reduced, made(t, y.Head, goals...))
				}
			}
		}
		if got := steps(t, reduced); showTerms(got) != showTerms(facts) {
			t.Fatalf("round %d: of\n%s%s, but %s is stable", round, showClauses(l), showTerms(facts), showTerms(got))
		}
		held++
	}
	if held < 2000 {
		t.Error(held)
	}
}

// steps are what follows step by step, until nothing more does.
func steps(t *testing.T, l []api.Clause) []api.Term {
	t.Helper()
	var facts []api.Term
	for {
		more, err := proof.Step(l, facts)
		if err != api.OK {
			t.Fatal(err)
		}
		if len(more) == len(facts) {
			return facts
		}
		facts = more
	}
}

// TestModelIsWhatFollows: without \+ it is what follows step by step.
func TestModelIsWhatFollows(t *testing.T) {
	t.Parallel()
	x := chance(35)
	many := 0
	for round := range 6000 {
		l := x.program(0, false)
		got, err := model.Model(l)
		if want := steps(t, l); err != api.OK || showTerms(got) != showTerms(want) {
			t.Fatalf("round %d: of\n%s%s, %v, not %s", round, showClauses(l), showTerms(got), err, showTerms(want))
		}
		if len(got) > 10 {
			many++
		}
	}
	if many < 300 {
		t.Error(many)
	}
}

// found is what a search that ends tells of a query, in the order of terms, each once.
func found(t *testing.T, l []api.Clause, query api.Term) (facts []api.Term, ends bool) {
	t.Helper()
	b := base.New()
	for _, x := range l {
		if _, err := b.Add(x, false); err != api.OK {
			t.Fatal(err)
		}
	}
	s, err := solve.New(b, query)
	if err != api.OK {
		t.Fatal(err)
	}
	for left := 3000; ; {
		o := s.Next(left)
		left -= o.Steps
		switch o.Kind {
		case api.Answer:
			facts = append(facts, o.Term)
			continue
		case api.None:
			slices.SortFunc(facts, term.Order)
			return slices.CompactFunc(facts, same), true
		case api.Thrown:
			t.Fatalf("of\n%s%s throws %s", showClauses(l), show(query), show(o.Ball))
		}
		return nil, false
	}
}

// TestSearchesTellTheSame: a search that ends tells of a flat query just the facts that Ask does.
func TestSearchesTellTheSame(t *testing.T) {
	t.Parallel()
	x := chance(36)
	held, many, negated := 0, 0, 0
	for round := range 4000 {
		// Each predicate has a clause, in whichever place.
		l := x.program(pick(&x, 0, 2, 4), true)
		for _, f := range []string{"p :- q(b), u(b,1).", "q(a).", "r(X) :- r(X), q(X).", "s(a,b,1).", "t(1,b).", "u(b,b)."} {
			l = slices.Insert(l, x.below(len(l)+1), clauses(t, f)...)
		}
		facts, err := model.Model(l)
		if err != api.OK {
			continue
		}
		for _, query := range []api.Term{x.atom(3), x.atom(3), a("p"), c("q", v(0)), c("t", v(0), v(1))} {
			want, ends := found(t, l, query)
			if !ends {
				continue
			}
			got, err := model.Ask(l, query)
			if err != api.OK || showTerms(got) != showTerms(want) || showTerms(got) != showTerms(naiveAsk(facts, query)) {
				t.Fatalf("round %d: of\n%s%s: %s, %v, not %s", round, showClauses(l), show(query), showTerms(got), err, showTerms(want))
			}
			held++
			if len(got) > 2 {
				many++
			}
			if strings.Contains(showClauses(l), "\\+") {
				negated++
			}
		}
	}
	if held < 3000 || many < 150 || negated < 500 {
		t.Error(held, many, negated)
	}
}

// edge is a goal over few predicates that all lean on one another before long.
func (x *chance) edge(vars int) api.Term {
	arg := func() api.Term {
		if x.below(12) == 0 {
			return i(int64(x.below(6)))
		}
		return v(int64(x.below(vars)))
	}
	if x.below(5) == 0 {
		return c(pick(x, "n", "m"), arg())
	}
	return c(pick(x, "e", "e", "t", "u", "w"), arg(), arg())
}

// graph has many facts, and rules of many goals that are joined to one another in many ways.
func (x *chance) graph() []api.Clause {
	var l []api.Clause
	negated := pick(x, 0, 0, 2)
	for range 4 + x.below(20) {
		l = append(l, fact(c(pick(x, "e", "e", "e", "t"), i(int64(x.below(6))), i(int64(x.below(6))))))
	}
	for range 2 + x.below(20) {
		vars := 2 + x.below(4)
		var goals []api.Term
		for range pick(x, 1, 2, 2, 3, 4, 5) {
			goals = append(goals, x.edge(vars))
		}
		head := x.edge(vars)
		for range min(negated, pick(x, 0, 0, 0, 0, 1, 2)) {
			goals = slices.Insert(goals, x.below(len(goals)+1), not(x.edge(vars)))
		}
		if made, err := base.Make(c(":-", head, x.body(goals))); err == api.OK && naiveSafe(made) {
			l = append(l, made)
		}
	}
	return l
}

// TestGraphsByChance: rules of many goals, most of which are found in one of the many ways that there are.
func TestGraphsByChance(t *testing.T) {
	t.Parallel()
	x := chance(37)
	held, many := 0, 0
	for round := range 5000 {
		l := x.graph()
		levels, err := model.Levels(l)
		want, wantErr := naiveLevels(l)
		if err != wantErr || showLevels(levels) != showLevels(want) {
			t.Fatalf("round %d: of\n%s%s, %v, not %s, %v", round, showClauses(l), showLevels(levels), err, showLevels(want), wantErr)
		}
		if err != api.OK {
			continue
		}
		facts := joinedModel(l)
		got, err := model.Model(l)
		if err != api.OK || showTerms(got) != showTerms(facts) {
			t.Fatalf("round %d: of\n%s%s, %v, not %s", round, showClauses(l), showTerms(got), err, showTerms(facts))
		}
		query := x.edge(2)
		few, err := model.Ask(l, query)
		if want := naiveAsk(facts, query); err != api.OK || showTerms(few) != showTerms(want) {
			t.Fatalf("round %d: of\n%s%s: %s, %v, not %s", round, showClauses(l), show(query), showTerms(few), err, showTerms(want))
		}
		held++
		if len(got) > 30 {
			many++
		}
	}
	if held < 2000 || many < 200 {
		t.Error(held, many)
	}
}
