package proof_test

import (
	"testing"

	"hornbook/api"
	"hornbook/proof"
)

const edges = "e(a,b). t(X,Y) :- e(X,Y). t(X,Y) :- e(X,Z), t(Z,Y). e(b,c)."

func TestShows(t *testing.T) {
	for _, x := range []struct{ program, tree, want string }{
		{edges, "0", "e(a,b)"}, {edges, "3", "e(b,c)"}, {edges, "1(0)", "t(a,b)"}, {edges, "1(3)", "t(b,c)"}, {edges, "2(0 1(3))", "t(a,c)"},
		{"p. q :- p, p.", "0", "p"}, {"p. q :- p, p.", "1(0 0)", "q"}, {"p :- true, (true, true).", "0", "p"}, {"p. q :- true, (p, true).", "1(0)", "q"},
		{"p(X,Y,X).", "0", "p(_0,_1,_0)"}, {"p(Y,f(X)) :- q(X). q(g(Z,Z,W)).", "0(1)", "p(_0,f(g(_1,_1,_2)))"},
		// The clauses have variables of their own, also where one is taken more than once.
		{"p(X,Y) :- q(X), q(Y). q(Z).", "0(1 1)", "p(_0,_1)"}, {"p(X,Y) :- q(X,Y), q(Y,X). q(f(A),B).", "0(1 1)", "p(f(_0),f(_1))"},
		{"p(X) :- p(f(X)). p(X).", "0(0(1))", "p(_0)"}, {"p(f(X)) :- p(X). p(a).", "0(0(0(1)))", "p(f(f(f(a))))"}, {"p(f(X)) :- p(X). p(X).", "0(0(1))", "p(f(f(_0)))"},
		{"p(X,Y) :- q(X,Z), q(Z,Y). q(f(X),X).", "0(1 1)", "p(f(f(_0)),_0)"}, {"p(X,Y) :- q(X,Y). q(X,X).", "0(1)", "p(_0,_0)"},
		// A later kid says more of what an earlier one showed.
		{"p(X) :- q(X), r(X). q(f(Y,Z)). r(f(a,W)).", "0(1 2)", "p(f(a,_0))"}, {"p(X) :- q(X,Y), r(Y). q(Z,Z). r(3).", "0(1 2)", "p(3)"},
		{"app([],X,X). app([X|Y],Z,[X|W]) :- app(Y,Z,W).", "1(1(0))", "app([_0,_1],_2,[_0,_1|_2])"},
		{"p(X,Y,Z) :- q(Z), r(Y). q(_). r(g(_,B,B)).", "0(1 2)", "p(_0,g(_1,_2,_2),_3)"},
	} {
		got, err := proof.Shows(clauses(t, x.program), readTree(t, x.tree))
		if err != api.OK || printed(t, got) != x.want {
			t.Errorf("%s %s: %s, %v", x.program, x.tree, show(got), err)
		}
	}
}

func TestShowsNothing(t *testing.T) {
	for _, x := range []struct{ program, tree string }{
		{edges, "1(1(0))"}, {edges, "2(0 0)"}, {edges, "2(0 1(0))"}, {edges, "2(0 2(0 1(3)))"}, {edges, "2(1(0) 1(3))"},
		{"p :- q. q(a). r.", "0(1)"}, {"p :- q. q(a). r.", "0(2)"}, {"p :- q. q(a). r.", "0(0(1))"}, {"p(X) :- q(X). q(a,b). q(c).", "0(1)"},
		{"p :- q(a). q(b).", "0(1)"}, {"p(X) :- q(X), r(X). q(a). r(b).", "0(1 2)"}, {"p :- q(X,f(X)). q(Y,Y).", "0(1)"}, {"p(X) :- q(X,Y), q(Y,X). q(Z,f(Z)).", "0(1 1)"},
		{"p :- q(1). q('1').", "0(1)"}, {"p :- q(a). q(a(b)).", "0(1)"}, {"p :- q(X), r(X). q(f(Y,Y)). r(f(Z,g(Z))).", "0(1 2)"},
	} {
		got, err := proof.Shows(clauses(t, x.program), readTree(t, x.tree))
		if err != api.ErrClash || !isZero(got) {
			t.Errorf("%s %s: %s, %v", x.program, x.tree, show(got), err)
		}
	}
}

// TestShowsOfNoTree: that there is no such clause, or another number of kids, goes ahead of a clash, wherever it is.
func TestShowsOfNoTree(t *testing.T) {
	for _, x := range []struct{ program, tree string }{
		{edges, "4"}, {edges, "-1"}, {edges, "9223372036854775807"}, {edges, "-9223372036854775808"}, {edges, "1"}, {edges, "2(0)"}, {edges, "0(0)"}, {edges, "1(0 0)"}, {edges, "2(0 1(3) 0)"},
		{edges, "1(4)"}, {edges, "1(1)"}, {edges, "1(0(0))"}, {edges, "2(0 1)"}, {edges, "2(1 1(0))"}, {edges, "2(1(0) 5)"}, {edges, "2(1(0) 2(0 1(-1)))"}, {edges, "2(2(0 4) 1(0))"}, {edges, "1(1(1(1(1))))"},
		{"p :- true, (q, true). q.", "0"}, {"p :- true, (q, true). q.", "0(1 1)"}, {"p :- true, (q, true). q.", "0(1 1 1)"}, {"p :- true, (true, true).", "0(0)"}, {"p :- q, q, q. q.", "0(1 1)"}, {"p :- q, q, q. q.", "0(1 1 1 1)"},
	} {
		got, err := proof.Shows(clauses(t, x.program), readTree(t, x.tree))
		if err != api.ErrArg || !isZero(got) {
			t.Errorf("%s %s: %s, %v", x.program, x.tree, show(got), err)
		}
	}
	// The clauses are looked at first.
	for _, x := range []struct {
		clause api.Clause
		want   api.Errno
	}{{api.Clause{}, api.ErrTerm}, {fact(v(0)), api.ErrClause}, {rule(a("a"), a("!")), api.ErrKind}} {
		for _, u := range []api.Tree{tree(0), tree(5), tree(1), tree(0, tree(0))} {
			if got, err := proof.Shows([]api.Clause{fact(a("a")), x.clause}, u); err != x.want || !isZero(got) {
				t.Error(show(got), err, x.want)
			}
		}
	}
	// A list of kids that has nothing in it may be empty.
	if got, err := proof.Shows(clauses(t, edges), api.Tree{Clause: 1, Kids: []api.Tree{{Clause: 0, Kids: []api.Tree{}}}}); err != api.OK || printed(t, got) != "t(a,b)" {
		t.Error(show(got), err)
	}
}
