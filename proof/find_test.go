package proof_test

import (
	"testing"

	"hornbook/api"
	"hornbook/proof"
)

const app = "app([],X,X). app([X|Y],Z,[X|W]) :- app(Y,Z,W)."

func TestFind(t *testing.T) {
	for _, x := range []struct {
		program, goal string
		depth, most   int
		want          string
	}{
		{"e(a,b). t(X,Y) :- e(X,Y).", "t(a,Z)", 2, 10, "t(a,b) 1(0)"},
		{edges, "t(a,Z)", 3, 10, "t(a,b) 1(0); t(a,c) 2(0 1(3))"}, {edges, "t(a,Z)", 2, 10, "t(a,b) 1(0)"}, {edges, "t(a,Z)", 1, 10, ""}, {edges, "t(a,Z)", 0, 10, ""},
		{edges, "t(a,Z)", 1000, 10, "t(a,b) 1(0); t(a,c) 2(0 1(3))"}, {edges, "t(a,Z)", 3, 1, "t(a,b) 1(0)"}, {edges, "t(a,Z)", 3, 0, ""}, {edges, "t(a,Z)", 3, greatest, "t(a,b) 1(0); t(a,c) 2(0 1(3))"},
		{edges, "e(X,Y)", 1, 10, "e(a,b) 0; e(b,c) 3"}, {edges, "t(X,c)", 9, 10, "t(b,c) 1(3); t(a,c) 2(0 1(3))"}, {edges, "t(c,X)", 9, 10, ""}, {edges, "e(X,X)", 9, 10, ""},
		{edges, "nope", 9, 10, ""}, {edges, "t(a)", 9, 10, ""}, {edges, "e", 9, 10, ""},
		{app, "app(X,Y,[a])", 5, 9, "app([],[a],[a]) 0; app([a],[],[a]) 1(0)"}, {app, "app(X,Y,Z)", 3, 9, "app([],_0,_0) 0; app([_0],_1,[_0|_1]) 1(0); app([_0,_1],_2,[_0,_1|_2]) 1(1(0))"},
		// What is proven has the goal's own variables, which are not the clauses'.
		{"p(X,Y).", "p(Y,X)", 1, 1, "p(_0,_1) 0"}, {"p(X,a).", "p(b,X)", 1, 1, "p(b,a) 0"}, {"p(f(X)).", "p(X)", 1, 1, "p(f(_0)) 0"}, {"p(X,f(X)).", "p(Y,Y)", 1, 1, ""}, {"p(X,Y,Z) :- q(Y). q(f(_)).", "p(A,B,B)", 2, 2, "p(_0,f(_1),f(_1)) 0(1)"},
		{"q(a). p(X) :- q(X).", "p(g(X,X))", 3, 9, ""}, {"q(g(a,Y)). p(X) :- q(X).", "p(g(X,X))", 3, 9, "p(g(a,a)) 1(0)"},
		// Two clauses that are the same are two proofs; so are two ways to prove the same.
		{"p. p.", "p", 1, 9, "p 0; p 1"}, {"p :- q. p :- r. q. r.", "p", 2, 9, "p 0(2); p 1(3)"},
		// By Clause, then by the first kid, then by the second, each by the same order, not by depth.
		{"p :- q, q. q. q.", "p", 2, 9, "p 0(1 1); p 0(1 2); p 0(2 1); p 0(2 2)"},
		{"p :- p. p.", "p", 3, 9, "p 0(0(1)); p 0(1); p 1"}, {"p. p :- p.", "p", 3, 9, "p 0; p 1(0); p 1(1(0))"},
		{"p :- p, p. p.", "p", 3, 9, "p 0(0(1 1) 0(1 1)); p 0(0(1 1) 1); p 0(1 0(1 1)); p 0(1 1); p 1"}, {"p :- p, p. p.", "p", 3, 3, "p 0(0(1 1) 0(1 1)); p 0(0(1 1) 1); p 0(1 0(1 1))"},
		{"n(s(X)) :- n(X). n(0).", "n(X)", 3, 2, "n(s(s(0))) 0(0(1)); n(s(0)) 0(1)"}, {"n(0). n(s(X)) :- n(X).", "n(X)", 1000, 3, "n(0) 0; n(s(0)) 1(0); n(s(s(0))) 1(1(0))"},
		{"p(X) :- q(X,Y), r(Y). q(1,a). q(2,b). q(3,b). r(b). r(b).", "p(X)", 2, 9, "p(2) 0(2 4); p(2) 0(2 5); p(3) 0(3 4); p(3) 0(3 5)"},
		// Bodies with `true` in them, and without any goal.
		{"p :- true. q :- true, p, true. r :- (true, true).", "q", 2, 9, "q 1(0)"}, {"p :- true. q :- true, p, true. r :- (true, true).", "r", 1, 9, "r 2"}, {"p :- (q, r), (s, t). q. r. s. t.", "p", 2, 9, "p 0(1 2 3 4)"},
		// Names that reserved predicates have, with other numbers of Args.
		{"call :- true(a). true(X) :- (','). ',' .", "call", 3, 9, "call 0(1(2))"},
	} {
		l := clauses(t, x.program)
		got, err := proof.Find(l, read(t, x.goal), x.depth, x.most)
		if err != api.OK || printedProofs(t, got) != x.want {
			t.Errorf("%s %s: %s, %v", x.program, x.goal, printedProofs(t, got), err)
		}
	}
}

func TestFindErrors(t *testing.T) {
	l := clauses(t, edges)
	are, arent := likeReserved()
	for _, goal := range append(are, v(0), v(api.MaxVar), i(0), i(least)) {
		for _, depth := range []int{5, -1, 1001} {
			if got, err := proof.Find(l, goal, depth, depth); err != api.ErrClause || got != nil {
				t.Errorf("%s: %s, %v", show(goal), showProofs(got), err)
			}
		}
	}
	for _, goal := range arent {
		if got, err := proof.Find([]api.Clause{fact(goal)}, goal, 1, 2); err != api.OK || len(got) != 1 || !same(got[0].Term, goal) {
			t.Errorf("%s: %s, %v", show(goal), showProofs(got), err)
		}
	}
	goal := read(t, "t(a,Z)")
	for _, x := range [][2]int{{-1, 1}, {1, -1}, {-1, -1}, {1001, 1}, {1001, 0}, {greatest, 1}, {least, 1}, {1, least}, {0, -1}, {-1, 0}, {1000, -1}} {
		if got, err := proof.Find(l, goal, x[0], x[1]); err != api.ErrArg || got != nil {
			t.Errorf("%v: %s, %v", x, showProofs(got), err)
		}
	}
	for _, x := range [][2]int{{0, 0}, {1000, 0}, {1000, greatest}, {0, greatest}} {
		if _, err := proof.Find(l, goal, x[0], x[1]); err != api.OK {
			t.Errorf("%v: %v", x, err)
		}
	}
	// Of a goal that is none ErrTerm is told ahead of all; then what the clauses tell; then the rest.
	for _, x := range nones() {
		for _, more := range [][]api.Clause{nil, {{}}, {fact(v(0))}, {rule(a("a"), a("!"))}} {
			if got, err := proof.Find(append(l[:1:1], more...), x, -1, -1); err != api.ErrTerm || got != nil {
				t.Errorf("%s: %s, %v", show(x), showProofs(got), err)
			}
		}
	}
	for _, x := range []struct {
		clause api.Clause
		want   api.Errno
	}{{api.Clause{}, api.ErrTerm}, {fact(v(0)), api.ErrClause}, {rule(a("a"), a("!")), api.ErrKind}} {
		for _, goal := range []api.Term{v(0), i(3), a("!"), goal} {
			if got, err := proof.Find([]api.Clause{fact(a("a")), x.clause}, goal, -1, 1); err != x.want || got != nil {
				t.Error(show(goal), showProofs(got), err, x.want)
			}
		}
	}
}

// TestFindTakesNoMoreThanItNeeds: clauses by which no proof can end, or none so flat, are not gone into, however many ways there are;
// and behind the last proof that is wanted nothing is looked for.
func TestFindTakesNoMoreThanItNeeds(t *testing.T) {
	for _, x := range []struct {
		program, goal string
		depth, most   int
		want          string
	}{
		{"p :- p. p :- p. p :- p, p.", "p", 1000, 5, ""}, {"p :- q, q. q :- p. q :- p, q. r.", "p", 1000, 5, ""},
		{"p :- q, nope. q :- q. q :- q. q.", "p", 1000, 5, ""}, {"p(X) :- p(X), p(X), no(X). p(a).", "p(X)", 1000, 1, "p(a) 1"},
		{"p. p :- p. p :- p.", "p", 1000, 3, "p 0; p 1(0); p 1(1(0))"}, {"a :- b. b :- c. c :- d. d. a :- a, a.", "a", 3, 1, ""}, {"a :- b. b :- c. c :- d. d. a :- a, a.", "a", 4, 9, "a 0(1(2(3)))"},
	} {
		got, err := proof.Find(clauses(t, x.program), read(t, x.goal), x.depth, x.most)
		if err != api.OK || printedProofs(t, got) != x.want {
			t.Errorf("%s %s: %s, %v", x.program, x.goal, printedProofs(t, got), err)
		}
	}
}
