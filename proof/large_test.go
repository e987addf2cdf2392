package proof_test

import (
	"slices"
	"strconv"
	"testing"

	"hornbook/api"
	"hornbook/proof"
)

// nested is core with around about it, so often.
func nested(n int, core api.Term, around func(t api.Term) api.Term) api.Term {
	t := core
	for range n {
		t = around(t)
	}
	return t
}

// chain is a tree of one kid in another: so often the first place, then the last tree.
func chain(n, place int, last api.Tree) api.Tree {
	t := last
	for range n {
		t = tree(place, t)
	}
	return t
}

// most parts may be nested in one another, by the document.
const most = 1 << 16

func succ(n int, core api.Term) api.Term {
	return nested(n, core, func(t api.Term) api.Term { return c("s", t) })
}

func TestDeepBodies(t *testing.T) {
	for name, around := range map[string]func(t api.Term) api.Term{
		"right": func(x api.Term) api.Term { return c(",", c("p", v(0)), x) },
		"left":  func(x api.Term) api.Term { return c(",", x, c("p", v(0))) },
		"both":  func(x api.Term) api.Term { return c(",", a("true"), c(",", x, c("p", v(0)))) },
	} {
		n := most - 3
		if name == "both" {
			n /= 2
		}
		body := nested(n, a("end"), around)
		got, err := proof.Goals(body)
		if err != api.OK || len(got) != n+1 {
			t.Fatal(name, len(got), err)
		}
		at := n
		if name != "right" {
			at = 0
		}
		for k, x := range got {
			if (k == at) != same(x, a("end")) || k != at && !same(x, c("p", v(0))) {
				t.Fatal(name, k, show(x))
			}
		}
		if got, err := proof.Goals(nested(n, i(3), around)); err != api.ErrKind || got != nil {
			t.Error(name, len(got), err)
		}
		if got, err := proof.Goals(nested(n, api.Term{}, around)); err != api.ErrTerm || got != nil {
			t.Error(name, len(got), err)
		}
		l := []api.Clause{rule(c("h", v(0)), body), fact(a("end")), fact(c("p", a("a"))), fact(c("p", a("b")))}
		proofs, err := proof.Find(l, c("h", v(0)), 2, 5)
		if err != api.OK || len(proofs) != 2 || !same(proofs[1].Term, c("h", a("b"))) || len(proofs[1].Tree.Kids) != n+1 {
			t.Fatal(name, len(proofs), err)
		}
		for _, p := range proofs {
			if shown, err := proof.Shows(l, p.Tree); err != api.OK || !same(shown, p.Term) {
				t.Error(name, show(shown), err)
			}
		}
		if heads, err := proof.Step(l[:1], []api.Term{c("p", a("b")), a("end"), c("p", i(3))}); err != api.OK || len(heads) != 2 {
			t.Error(name, len(heads), err)
		}
	}
}

func TestDeepTerms(t *testing.T) {
	const n = most - 3
	deep, open := succ(n, i(0)), succ(n, v(0))
	l := []api.Clause{fact(c("p", deep)), rule(c("q", v(0)), c("p", v(0))), rule(c("r", open), c("q", open)), fact(c("p", open))}
	got, err := proof.Find(l, c("r", v(5)), 3, 5)
	if err != api.OK || len(got) != 2 || !same(got[0].Term, c("r", deep)) || !same(got[1].Term, c("r", open)) {
		t.Fatal(len(got), err)
	}
	if got, err = proof.Find(l, c("q", deep), 3, 5); err != api.OK || len(got) != 2 {
		t.Error(len(got), err)
	}
	for u, want := range map[string]api.Term{"2(1(0))": deep, "2(1(3))": open} {
		if shown, err := proof.Shows(l, readTree(t, u)); err != api.OK || !same(shown, c("r", want)) {
			t.Error(u, err)
		}
	}
	heads, err := proof.Step(l[:3], []api.Term{c("p", deep), c("q", deep), c("q", a("a"))})
	if err != api.OK || len(heads) != 3 || !same(heads[2], c("r", deep)) {
		t.Error(len(heads), err)
	}
}

// TestDeepTrees: as many trees in one another as the document bounds.
func TestDeepTrees(t *testing.T) {
	const n = most - 2
	for _, x := range []struct {
		program string
		size    int // of the list, or the number
	}{
		{"n(0). n(s(X)) :- n(X).", n}, {"n(X) :- m(X,0). m(s(X),s(Y)) :- m(X,Y). m(0,Y). m(X,Y) :- m(X,s(Y)).", 0}, {"m(X,X). m(X,Y) :- m(X,s(Y)).", 0},
	} {
		l := clauses(t, x.program)
		u := chain(n, 1, tree(0))
		if len(l) == 4 {
			u = tree(0, chain(n-1, 3, tree(2)))
		}
		got, err := proof.Shows(l, u)
		if err != api.OK || x.size > 0 && !same(got, c("n", succ(x.size, i(0)))) {
			t.Error(x.program, err)
		}
	}
	l := clauses(t, app)
	got, err := proof.Shows(l, chain(n, 1, tree(0)))
	if err != api.OK {
		t.Fatal(err)
	}
	first, third := got.Args[0], got.Args[2]
	for k := range n {
		if !same(first.Args[0], third.Args[0]) || !same(first.Args[0], v(int64(k))) {
			t.Fatal(k, show(first.Args[0]))
		}
		first, third = first.Args[1], third.Args[1]
	}
	if !same(first, a("[]")) || !same(third, v(n)) || !same(got.Args[1], v(n)) {
		t.Error(show(first), show(third))
	}
	// The least fault is found, however deep it is.
	for _, last := range []api.Tree{tree(0, tree(0)), tree(2), tree(1), tree(-1)} {
		if got, err := proof.Shows(l, chain(n, 1, last)); err != api.ErrArg || !isZero(got) {
			t.Error(showTree(last), err)
		}
	}
	if got, err := proof.Shows(clauses(t, "n(0). n(s(X)) :- n(X). m(0)."), chain(n, 1, tree(2))); err != api.ErrClash || !isZero(got) {
		t.Error(err)
	}
}

// TestShowsInTime: what a tree shows is found in time that does not grow much faster than the tree, whatever terms stand for in it.
func TestShowsInTime(t *testing.T) {
	const n = 40000
	one := tree(0)
	for _, x := range []struct {
		name, program, want string
		tree                api.Tree
	}{
		{"doubled", "p(a). p(f(X,X)) :- p(X). q :- p(X).", "q", tree(2, chain(n, 1, one))},
		{"doubled twice", "p(a). p(f(X,X)) :- p(X). q(Y) :- p(X), p(X), r(X,Y). r(X,X). r(f(X,Z),Y) :- r(X,Y).", "q(a)", tree(2, chain(n, 1, one), chain(n, 1, one), chain(n, 4, tree(3)))},
		{"doubled, open", "p(X). p(f(X,X)) :- p(X). q :- p(X), p(X).", "q", tree(2, chain(n, 1, one), chain(n/2, 1, one))},
		{"doubled, two that are to be one", "p(X). p(f(X,X)) :- p(X). q :- p(X), p(Y), r(X,Y), r(Y,X), r(X,Y). r(X,X).", "q", tree(2, chain(n, 1, one), chain(n, 1, one), tree(3), tree(3), tree(3))},
		{"doubled and nested in itself", "p(X,X). p(f(X,X),Y) :- p(X,Y). q :- p(X,X).", "", tree(2, chain(n, 1, one))},
		{"a great term in each of many", "p(L,[]). p(L,f(L,T)) :- p(g(L),T). q :- p(L,T).", "q", tree(2, chain(n, 1, one))},
		{"a great term in each of many, in a loop", "p(L,L). p(L,f(L,T)) :- p(g(L),T). q :- p(L,T), r(L,T). r(L,f(L,f(T,L))).", "", tree(2, chain(n, 1, one), tree(3))},
		{"two great terms that are to be one, often", "p(X). p(f(Y,X)) :- p(X). q :- p(X), p(Y), r(X,Y). r(X,Y) :- s(X,Y), r(X,Y). s(X,X). t. r(X,Y) :- t.", "q", tree(2, chain(n, 1, one), chain(n, 1, one), manySame(n))},
		{"a chain of variables", "p(X,X). p(X,Y) :- p(Z,Y), r(X,Z). r(X,X). q :- p(a,b).", "", tree(3, wide(n))},
		{"a chain of variables, open", "p(X,X). p(X,Y) :- p(Z,Y), r(X,Z). r(X,X). q(Y) :- p(a,Y).", "q(a)", tree(3, wide(n))},
	} {
		got, err := proof.Shows(clauses(t, x.program), x.tree)
		if x.want == "" {
			if err != api.ErrClash || !isZero(got) {
				t.Error(x.name, err)
			}
		} else if err != api.OK || printed(t, got) != x.want {
			t.Error(x.name, err)
		}
	}
}

// manySame has s(X,X) so often.
func manySame(n int) api.Tree {
	t := tree(6, tree(5))
	for range n {
		t = tree(3, tree(4), t)
	}
	return t
}

func wide(n int) api.Tree {
	t := tree(0)
	for range n {
		t = tree(1, t, tree(2))
	}
	return t
}

// TestManyParts: a proof has more parts than calls can well be within one another.
func TestManyParts(t *testing.T) {
	const depth = 19
	l := clauses(t, "p(0). p(s(X)) :- p(X), p(X).")
	goal := c("p", succ(depth, i(0)))
	got, err := proof.Find(l, goal, depth+1, 3)
	if err != api.OK || len(got) != 1 || !same(got[0].Term, goal) {
		t.Fatal(len(got), err)
	}
	left, parts := []api.Tree{got[0].Tree}, 0
	for len(left) > 0 {
		u := left[len(left)-1]
		left = append(left[:len(left)-1], u.Kids...)
		parts++
	}
	if parts != 1<<(depth+1)-1 || depthOf(got[0].Tree) != depth+1 {
		t.Error(parts)
	}
	if shown, err := proof.Shows(l, got[0].Tree); err != api.OK || !same(shown, goal) {
		t.Error(err)
	}
	if got, err := proof.Find(l, goal, depth, 3); err != api.OK || len(got) != 0 {
		t.Error(len(got), err)
	}
}

// TestGreatestDepth: of as much depth as may be asked for, and not more.
func TestGreatestDepth(t *testing.T) {
	for _, program := range []string{"n(0). n(s(X)) :- n(X).", "n(s(X)) :- n(X). n(0)."} {
		l := clauses(t, program)
		got, err := proof.Find(l, c("n", v(0)), 1000, greatest)
		if err != api.OK || len(got) != 1000 {
			t.Fatal(len(got), err)
		}
		for k, p := range got {
			if program[2] == 's' {
				k = 999 - k
			}
			if !same(p.Term, c("n", succ(k, i(0)))) || depthOf(p.Tree) != k+1 {
				t.Fatal(k, show(p.Term))
			}
		}
		if got, err := proof.Find(l, c("n", succ(999, i(0))), 1000, 2); err != api.OK || len(got) != 1 {
			t.Error(len(got), err)
		}
		if got, err := proof.Find(l, c("n", succ(1000, i(0))), 1000, 2); err != api.OK || len(got) != 0 {
			t.Error(len(got), err)
		}
	}
	// The first goal goes deeper and deeper ahead of anything else.
	l := clauses(t, "t(X,Y) :- t(X,Z), e(Z,Y). t(X,Y) :- e(X,Y). e(a,b). e(b,a).")
	got, err := proof.Find(l, c("t", a("a"), v(0)), 1000, 20)
	if err != api.OK || len(got) != 20 {
		t.Fatal(len(got), err)
	}
	for k, p := range got {
		if depthOf(p.Tree) != 1000-k || !same(p.Term, c("t", a("a"), []api.Term{a("b"), a("a")}[k%2])) {
			t.Error(k, depthOf(p.Tree), show(p.Term))
		}
	}
}

// TestManyClauses: those of a goal are found by its predicate and its first Arg, and each is looked at once for how deep it is.
func TestManyClauses(t *testing.T) {
	const n = 50000
	var l []api.Clause
	for k := range n {
		l = append(l, fact(c("e", i(int64(k)), i(int64(k+1)))))
	}
	l = append(l, clauses(t, "t(X,Y) :- e(X,Y). t(X,Y) :- e(X,Z), t(Z,Y).")...)
	got, err := proof.Find(l, c("t", i(100), v(0)), 900, greatest)
	if err != api.OK || len(got) != 899 || !same(got[898].Term, c("t", i(100), i(999))) {
		t.Fatal(len(got), err)
	}
	// Each goal is of the predicate of the clause behind, or ahead of it: from the first to the last it is as deep as there are clauses.
	name := func(k int) api.Term { return a("p" + strconv.Itoa(k)) }
	l = []api.Clause{fact(name(n))}
	for k := n - 1; k >= 0; k-- {
		l = append(l, rule(name(k), name(k+1)), rule(name(k), c(",", name(k), name(k+1))))
	}
	for range 2 {
		for k, want := range map[int]int{0: 0, n - 1000: 0, n - 999: 1, n - 1: 1} {
			if got, err := proof.Find(l, name(k), min(1000, n-k+1), 2); err != api.OK || len(got) != want {
				t.Error(k, len(got), err)
			}
		}
		slices.Reverse(l)
	}
}

// TestManyFacts: much follows, in time that does not grow much faster than what is there.
func TestManyFacts(t *testing.T) {
	const n = 30000
	var facts []api.Term
	for k := range n {
		facts = append(facts, c("e", i(int64((k*7919)%n)), i(int64((k*7919)%n+1))))
	}
	l := clauses(t, "t(X,Z) :- e(X,Y), e(Y,Z). u(Y) :- e(X,Y), e(Y,Z). v :- e(X,Y), e(Z,W). w(0,Y) :- e(X,Y), e(X,Y), e(X,Y).")
	got, err := proof.Step(l, facts)
	if err != api.OK || len(got) != 1+n-1+n-1+n {
		t.Fatal(len(got), err)
	}
	if !same(got[0], a("v")) || !same(got[1], c("u", i(1))) || !same(got[n], c("t", i(0), i(2))) || !same(got[2*n-1], c("w", i(0), i(1))) || !same(got[3*n-2], c("w", i(0), i(n))) {
		t.Error(show(got[0]), show(got[1]), show(got[n]), show(got[2*n-1]), show(got[3*n-2]))
	}
	// Many ways to the same few heads take no more room than those few.
	facts = facts[:0]
	for k := range 1200 {
		facts = append(facts, c("q", i(int64(k)), i(int64(k%3))))
	}
	got, err = proof.Step(clauses(t, "p(X,Y) :- q(A,X), q(B,Y)."), facts)
	if err != api.OK || len(got) != 9 || !same(got[8], c("p", i(2), i(2))) {
		t.Error(showTerms(got), err)
	}
}
