package magic_test

import (
	"slices"
	"strings"
	"testing"

	"hornbook/api"
	"hornbook/base"
	"hornbook/magic"
	"hornbook/model"
)

// arg of a flat atom.
func (x *chance) arg(vars int) api.Term {
	if vars > 0 && x.below(8) > 0 {
		return v(int64(x.below(vars)))
	}
	return pick(x, a("a"), a("b"), i(1))
}

// atom is a flat one, of one of some names.
func (x *chance) atom(vars int, names ...string) api.Term {
	name := pick(x, names...)
	switch name {
	case "p", "n":
		return a(name)
	case "q", "r", "f":
		return c(name, x.arg(vars))
	case "s":
		return c(name, x.arg(vars), x.arg(vars), x.arg(vars))
	}
	return c(name, x.arg(vars), x.arg(vars))
}

var (
	given = []string{"e", "e", "d", "f", "n"}
	drawn = []string{"p", "q", "r", "s", "t", "u", "t", "u"}
)

// rule is a safe one, of at most so many goals.
func (x *chance) rule(goals int) api.Clause {
	for {
		vars := pick(x, 1, 2, 3, 4)
		var l []api.Term
		for range goals {
			names := drawn
			if x.below(2) == 0 {
				names = given
			}
			l = append(l, x.atom(vars, names...))
		}
		made, err := base.Make(c(":-", x.atom(vars, drawn...), x.body(l)))
		if err == api.OK && naiveSafe(made) {
			return made
		}
	}
}

// body of goals, joined in some way, and now and then a `true` among them.
func (x *chance) body(l []api.Term) api.Term {
	if x.below(9) == 0 {
		return pick(x, c(",", a("true"), x.body(l)), c(",", x.body(l), a("true")))
	}
	switch len(l) {
	case 0:
		return a("true")
	case 1:
		return l[0]
	}
	k := 1 + x.below(len(l)-1)
	return c(",", x.body(l[:k]), x.body(l[k:]))
}

// program has facts and rules; some predicates have both.
func (x *chance) program() []api.Clause {
	var l []api.Clause
	for range x.below(pick(x, 4, 20, 30)) {
		l = append(l, fact(x.atom(0, given...)))
	}
	for range x.below(4) {
		l = append(l, fact(x.atom(0, drawn...)))
	}
	for range x.below(pick(x, 4, 12, 16)) {
		l = append(l, x.rule(pick(x, 0, 1, 1, 2, 2, 3, 4)))
	}
	for k := range l {
		m := x.below(k + 1)
		l[k], l[m] = l[m], l[k]
	}
	return l
}

// edge is a goal over few predicates that lean on one another before long.
func (x *chance) edge(vars int, names ...string) api.Term {
	arg := func() api.Term {
		if vars == 0 || x.below(9) == 0 {
			return i(int64(x.below(6)))
		}
		return v(int64(x.below(vars)))
	}
	name := pick(x, names...)
	if name == "m" {
		return c(name, arg())
	}
	return c(name, arg(), arg())
}

// graph has many facts, and rules that are joined to one another in many ways.
func (x *chance) graph() []api.Clause {
	var l []api.Clause
	for range 6 + x.below(20) {
		l = append(l, fact(x.edge(0, "e", "e", "e", "t")))
	}
	l = append(l, rule(c("t", v(0), v(1)), c("e", v(0), v(1))))
	for range 2 + x.below(8) {
		vars := 2 + x.below(3)
		var goals []api.Term
		for range pick(x, 1, 2, 2, 3, 4) {
			goals = append(goals, x.edge(vars, "e", "e", "t", "u", "w", "m"))
		}
		if made, err := base.Make(c(":-", x.edge(vars, "t", "u", "w", "m"), x.body(goals))); err == api.OK && naiveSafe(made) {
			l = append(l, made)
		}
	}
	return l
}

// sample: a program and a query, of either kind.
func (x *chance) sample() ([]api.Clause, api.Term) {
	if x.below(2) == 0 {
		return x.program(), x.query()
	}
	return x.graph(), x.edge(pick(x, 0, 1, 2, 2, 3), "t", "t", "u", "w", "m", "e")
}

func (x *chance) query() api.Term {
	return x.atom(pick(x, 0, 1, 3, 5), slices.Concat(drawn, drawn, given)...)
}

// TestMagicByChance holds the call against the document, word by word.
func TestMagicByChance(t *testing.T) {
	t.Parallel()
	x := chance(41)
	made, many := 0, 0
	for round := range 4000 {
		l, query := x.sample()
		want, wantAsks, wantErr := naiveMagic(l, query)
		got, asks, err := magic.Magic(l, query)
		if err != wantErr || showClauses(got) != showClauses(want) || !same(asks, wantAsks) {
			t.Fatalf("round %d: of\n%sand %s\n%s%s, %v, not\n%s%s, %v", round, showClauses(l), show(query), showClauses(got), show(asks), err, showClauses(want), show(wantAsks), wantErr)
		}
		if naiveDerived(l, query) {
			made++
		}
		if len(got) > 30 {
			many++
		}
	}
	if made < 2000 || many < 500 {
		t.Error(made, many)
	}
}

// plainName is what a moded atom's name was; others have none.
func plainName(t api.Term) string {
	name, _, is := strings.Cut(t.Name, "^")
	if !is || strings.HasPrefix(name, "?") {
		return ""
	}
	return name
}

// TestAnswersByChance: the new query has just the facts that the query has, but for the name, and each fact of a moded predicate is one of the old model.
func TestAnswersByChance(t *testing.T) {
	t.Parallel()
	x := chance(42)
	some, less, more := 0, 0, 0
	for round := range 3000 {
		l, query := x.sample()
		made, asks, err := magic.Magic(l, query)
		if err != api.OK {
			t.Fatalf("round %d: of\n%s%v", round, showClauses(l), err)
		}
		want, err := model.Ask(l, query)
		if err != api.OK {
			t.Fatal(err)
		}
		got, err := model.Ask(made, asks)
		for k := range got {
			if naiveDerived(l, query) {
				got[k].Name = plainName(got[k])
			}
		}
		if err != api.OK || showTerms(got) != showTerms(want) {
			t.Fatalf("round %d: of\n%s%s: %s, %v, not %s", round, showClauses(l), show(query), showTerms(got), err, showTerms(want))
		}
		if !naiveDerived(l, query) {
			continue
		}
		old, lessHere := facts(t, l), 0
		for _, fact := range facts(t, made) {
			if !strings.Contains(fact.Name, "^") {
				if naiveDerived(l, fact) || !isAmong(old, fact) {
					t.Fatalf("round %d: of\n%s%s: %s", round, showClauses(l), show(query), show(fact))
				}
				continue
			}
			fact.Name = plainName(fact)
			if fact.Name == "" {
				continue
			}
			if !isAmong(old, fact) {
				t.Fatalf("round %d: of\n%s%s: %s is not in the model", round, showClauses(l), show(query), show(fact))
			}
			lessHere++
		}
		if len(got) > 1 {
			some++
		}
		for _, fact := range old {
			if naiveDerived(l, fact) {
				lessHere--
			}
		}
		if lessHere < 0 {
			less++
		} else {
			more++
		}
	}
	if some < 350 || less < 750 || more < 250 {
		t.Error(some, less, more)
	}
}

func facts(t *testing.T, l []api.Clause) []api.Term {
	t.Helper()
	got, err := model.Model(l)
	if err != api.OK {
		t.Fatalf("of\n%s%v", showClauses(l), err)
	}
	return got
}

func isAmong(l []api.Term, x api.Term) bool {
	return slices.ContainsFunc(l, func(y api.Term) bool { return same(x, y) })
}

// TestErrorsByChance: of clauses and queries that have an error, or some, among others.
func TestErrorsByChance(t *testing.T) {
	t.Parallel()
	x := chance(43)
	kinds := map[api.Errno]int{}
	odd := slices.Concat(none, wrong, noRules, negated, notSafe, notFree, large)
	queries := []api.Term{a("?"), a("p^"), c("^", i(1), i(2)), c("?q", v(0)), of(strings.Repeat("y", 41), 1), of(strings.Repeat("y", 40), 40), of("y", 41), c("e", v(0), v(api.MaxVar+1)), {}}
	for range 5000 {
		l, query := x.program(), x.query()
		for range x.below(3) {
			l = slices.Insert(l, x.below(len(l)+1), odd[x.below(len(odd))])
		}
		if x.below(6) == 0 {
			query = pick(&x, queries...)
		}
		want, wantAsks, wantErr := naiveMagic(l, query)
		got, asks, err := magic.Magic(l, query)
		if err != wantErr || showClauses(got) != showClauses(want) || !same(asks, wantAsks) {
			t.Fatalf("of\n%sand %s\n%s%s, %v, not\n%s%s, %v", showClauses(l), show(query), showClauses(got), show(asks), err, showClauses(want), show(wantAsks), wantErr)
		}
		kinds[err]++
	}
	for _, err := range []api.Errno{api.OK, api.ErrTerm, api.ErrClause, api.ErrKind, api.ErrSafe, api.ErrLarge} {
		if kinds[err] < 150 {
			t.Error(err, kinds)
		}
	}
}
