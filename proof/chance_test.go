package proof_test

import (
	"slices"
	"testing"

	"hornbook/api"
	"hornbook/base"
	"hornbook/proof"
	"hornbook/term"
)

// data is a term that goals are about.
func (x *chance) data(vars, deep int) api.Term {
	switch k := x.below(9); {
	case k < 4 && vars > 0:
		return v(int64(x.below(vars)))
	case k < 7 || deep == 0:
		return pick(x, a("a"), a("b"), i(1))
	case k == 7:
		return c("f", x.data(vars, deep-1))
	}
	return c("g", x.data(vars, deep-1), x.data(vars, deep-1))
}

// goal is of one of few predicates.
func (x *chance) goal(vars int) api.Term {
	switch x.below(6) {
	case 0:
		return a("r")
	case 1, 2, 3:
		return c("p", x.data(vars, 2))
	}
	return c("q", x.data(vars, 1), x.data(vars, 1))
}

// body has so many goals, joined in some way, and now and then a `true` among them.
func (x *chance) body(goals, vars int) api.Term {
	if goals == 0 {
		return a("true")
	}
	if x.below(8) == 0 {
		return pick(x, c(",", a("true"), x.body(goals, vars)), c(",", x.body(goals, vars), a("true")))
	}
	if goals == 1 {
		return x.goal(vars)
	}
	first := 1 + x.below(goals-1)
	return c(",", x.body(first, vars), x.body(goals-first, vars))
}

// program has some clauses of at most so many goals; in those of safe ones each variable of a head stands in the body.
func (x *chance) program(safe bool, most int) []api.Clause {
	var l []api.Clause
	for range 2 + x.below(5) {
		goals, vars := min(most, pick(x, 0, 0, 0, 1, 1, 2, 2, 3)), 3
		if safe && goals == 0 {
			vars = 0
		}
		made, err := base.Make(c(":-", x.goal(vars), x.body(goals, vars)))
		if err != api.OK {
			panic(err)
		}
		if all, _ := term.Vars(made.Body); safe && !haveAll(all, made.Head) {
			made = fact(x.goal(0))
		}
		l = append(l, made)
	}
	return l
}

func haveAll(vars []int64, t api.Term) bool {
	theirs, _ := term.Vars(t)
	return !slices.ContainsFunc(theirs, func(n int64) bool { return !slices.Contains(vars, n) })
}

// bent is a tree that has another clause, or another kid, or one less, now and then; most of them still fit.
func (x *chance) bent(l []api.Clause, t api.Tree) api.Tree {
	u := tree(t.Clause)
	for _, kid := range t.Kids {
		u.Kids = append(u.Kids, x.bent(l, kid))
	}
	switch k := x.below(60); {
	case k > 30:
		other := x.below(len(l))
		if len(goalsOf(l[other])) == len(u.Kids) {
			u.Clause = other
		}
	case k == 6 && x.below(4) == 0:
		u.Clause = pick(x, -1, len(l), x.below(len(l)))
	case k == 7 && x.below(4) == 0:
		u.Kids = append(u.Kids, tree(x.below(len(l))))
	case k == 8 && x.below(4) == 0 && len(u.Kids) > 0:
		u.Kids = u.Kids[1:]
	}
	return u
}

// TestGoalsByChance holds Goals against the document, word by word.
func TestGoalsByChance(t *testing.T) {
	x := chance(17)
	kinds := map[api.Errno]int{}
	for range 20000 {
		body := x.body(x.below(7), 3)
		if x.below(2) == 0 {
			odd := pick(&x, v(0), i(1), a("!"), c(";", a("a"), a("b")), c(",", a("a")), c(",", a("a"), a("b"), a("c")), c("true", a("a")), a(","), c("call", v(0)), a("call"))
			body = pick(&x, odd, c(",", odd, body), c(",", body, odd), c(",", c(",", body, odd), body))
		}
		want, plain := naiveGoals(body)
		got, err := proof.Goals(body)
		kinds[err]++
		if plain != (err == api.OK) || !plain && (err != api.ErrKind || got != nil) || plain && showTerms(got) != showTerms(want) {
			t.Fatalf("%s: %s, %v", show(body), showTerms(got), err)
		}
	}
	if kinds[api.OK] < 4000 || kinds[api.ErrKind] < 4000 {
		t.Error(kinds)
	}
}

// TestFindByChance holds Find, and Shows of all trees, against the document, word by word.
func TestFindByChance(t *testing.T) {
	t.Parallel()
	x := chance(18)
	found, none, cut, shown := 0, 0, 0, 0
	for round := range 3000 {
		l := x.program(x.below(3) == 0, 3)
		depth := x.below(6)
		all, ok := trees(l, depth, 500)
		for !ok {
			depth--
			all, ok = trees(l, depth, 500)
		}
		proofs := shownTrees(l, all)
		for range 3 {
			goal := x.goal(3)
			want := naiveFind(goal, proofs)
			most := pick(&x, greatest, len(want), x.below(len(want)+2))
			if most < len(want) {
				want = want[:most]
				cut++
			}
			got, err := proof.Find(l, goal, depth, most)
			if err != api.OK || showProofs(got) != showProofs(want) {
				t.Fatalf("round %d: of\n%s%s up to %d, %d of them:\n%snot\n%s%v", round, showClauses(l), show(goal), depth, most, showProofs(got), showProofs(want), err)
			}
			if len(got) > 1 {
				found++
			} else if len(got) == 0 {
				none++
			}
		}
		for k := range min(len(all), 50) {
			if heldShows(t, l, all[k*37%len(all)]) == api.OK {
				shown++
			}
		}
	}
	if found < 500 || none < 1000 || cut < 200 || shown < 4000 {
		t.Error(found, none, cut, shown)
	}
}

// heldShows holds Shows of a tree against the document, and tells the error.
func heldShows(t *testing.T, l []api.Clause, u api.Tree) api.Errno {
	t.Helper()
	wantErr := api.ErrArg
	var want api.Term
	if naiveFits(l, u) {
		shown, ok := naiveShows(l, u)
		want, wantErr = shown, api.OK
		if !ok {
			wantErr = api.ErrClash
		}
	}
	got, err := proof.Shows(l, u)
	if err != wantErr || !same(got, want) {
		t.Fatalf("of\n%s%s: %s, %v, not %s, %v", showClauses(l), showTree(u), show(got), err, show(want), wantErr)
	}
	return err
}

// TestShowsByChance: of trees that are deeper, such as Find gives, and others that are much like them.
func TestShowsByChance(t *testing.T) {
	t.Parallel()
	x := chance(19)
	kinds, deep := map[api.Errno]int{}, 0
	for range 2000 {
		l := x.program(x.below(2) == 0, 2)
		proofs, err := proof.Find(l, pick(&x, c("p", v(0)), c("q", v(0), v(1))), 5, 12)
		if err != api.OK {
			t.Fatal(err)
		}
		for _, p := range proofs {
			for _, u := range []api.Tree{p.Tree, x.bent(l, p.Tree), x.bent(l, p.Tree)} {
				err := heldShows(t, l, u)
				kinds[err]++
				if err == api.OK && depthOf(u) > 3 {
					deep++
				}
			}
		}
	}
	if kinds[api.OK] < 5000 || kinds[api.ErrClash] < 1000 || kinds[api.ErrArg] < 200 || deep < 1000 {
		t.Error(kinds, deep)
	}
}

func depthOf(t api.Tree) int {
	deepest := 0
	for _, kid := range t.Kids {
		deepest = max(deepest, depthOf(kid))
	}
	return deepest + 1
}

// TestStepByChance holds Step against the document, word by word.
func TestStepByChance(t *testing.T) {
	t.Parallel()
	x := chance(20)
	kinds, many := map[api.Errno]int{}, 0
	for round := range 20000 {
		l := x.program(x.below(6) > 0, 3)
		var facts []api.Term
		for range x.below(12) {
			facts = append(facts, x.goal(0))
		}
		want, wantErr := naiveStep(l, facts)
		got, err := proof.Step(l, facts)
		if err != wantErr || showTerms(got) != showTerms(want) {
			t.Fatalf("round %d: of\n%s%s: %s, %v, not %s, %v", round, showClauses(l), showTerms(facts), showTerms(got), err, showTerms(want), wantErr)
		}
		kinds[err]++
		if len(got) > 4 {
			many++
		}
	}
	if kinds[api.OK] < 10000 || kinds[api.ErrSafe] < 1000 || many < 1000 {
		t.Error(kinds, many)
	}
}

// TestStepsAreFound: what Step says, done so often, is what Find proves up to that depth, as far as a goal matches it.
func TestStepsAreFound(t *testing.T) {
	t.Parallel()
	x := chance(21)
	held, later := 0, 0
	for round := range 4000 {
		l := x.program(true, 3)
		var facts []api.Term
		for depth := range 5 {
			goal := x.goal(pick(&x, 1, 2, 3))
			var want []api.Term
			for _, f := range facts {
				if _, is, _ := term.Match(goal, f); is {
					want = append(want, f)
				}
			}
			const most = 20000
			proofs, err := proof.Find(l, goal, depth, most)
			if err != api.OK {
				t.Fatal(err)
			}
			if len(proofs) == most {
				break
			}
			var got []api.Term
			for _, p := range proofs {
				got = append(got, p.Term)
			}
			slices.SortFunc(got, term.Order)
			got = slices.CompactFunc(got, same)
			if showTerms(got) != showTerms(want) {
				t.Fatalf("round %d: of\n%s%s up to %d: %s, not %s", round, showClauses(l), show(goal), depth, showTerms(got), showTerms(want))
			}
			held++
			if depth > 2 && len(got) > 1 {
				later++
			}
			if facts, err = proof.Step(l, facts); err != api.OK {
				t.Fatalf("round %d: of\n%s%v", round, showClauses(l), err)
			}
		}
	}
	if held < 10000 || later < 500 {
		t.Error(held, later)
	}
}
