package proof_test

import (
	"testing"

	"hornbook/api"
	"hornbook/proof"
)

func TestStep(t *testing.T) {
	for _, x := range []struct{ program, facts, want string }{
		{edges, "", "e(a,b); e(b,c)"}, {edges, "e(a,b).", "e(a,b); e(b,c); t(a,b)"}, {edges, "e(a,b). t(b,c).", "e(a,b); e(b,c); t(a,b); t(a,c)"},
		{edges, "e(a,b). t(c,d).", "e(a,b); e(b,c); t(a,b)"}, {edges, "t(a,b).", "e(a,b); e(b,c)"},
		{"t(X,Y) :- e(X,Y).", "", ""}, {"t(X,Y) :- e(X,Y).", "e(a,b).", "t(a,b)"},
		// What was a fact is not said again unless it follows.
		{"p :- q.", "q. r.", "p"}, {"p :- p.", "p.", "p"}, {"p.", "q.", "p"},
		// By the order of terms, each once.
		{"z. p(X) :- q(X). p(b). b. f(a,a). p(a).", "q(c). q(b). q(f(a)). q(3). q(-3).", "b; z; p(-3); p(3); p(a); p(b); p(c); p(f(a)); f(a,a)"}, {"p. p. p :- q. p :- q, q.", "q. q. q.", "p"},
		{"p(Y) :- q(X,Y).", "q(1,a). q(2,a). q(3,b). q(1,a).", "p(a); p(b)"},
		// Each goal is a fact with the same for each variable.
		{"p(X) :- q(X,X).", "q(a,b). q(c,c).", "p(c)"}, {"p(X) :- q(X), r(X).", "q(a). q(b). r(b). r(c).", "p(b)"}, {"p(X,Y) :- q(X), q(Y).", "q(1). q(2).", "p(1,1); p(1,2); p(2,1); p(2,2)"},
		{"p(X,Z) :- e(X,Y), e(Y,Z).", "e(a,b). e(b,c). e(c,d). e(b,d).", "p(a,c); p(a,d); p(b,d)"}, {"p(f(X),[X|Y]) :- q(g(X,Y)).", "q(g(a,b)). q(h(a,b)). q(g(f(c),[])).", "p(f(a),[a|b]); p(f(f(c)),[f(c)])"},
		{"p(X) :- q(f(X,a)), r(Y), s(Y,Z).", "q(f(1,a)). q(f(2,b)). r(3). r(4). s(4,5). s(4,6).", "p(1)"}, {"p(X) :- q(f(X,a)), r(Y), s(Y,Z).", "q(f(1,a)). r(3). s(4,5).", ""},
		{"p(X) :- r(Y), q(X), s(X,Z).", "r(1). r(2). q(a). q(b). q(c). s(b,1). s(b,2). s(a,1).", "p(a); p(b)"}, {"p :- q(X), r(X).", "q(1). q(2). q(3). r(2). r(3).", "p"},
		// Bodies with `true` in them.
		{"p :- true. q :- (true, true). r :- true, s, true.", "s.", "p; q; r"}, {"p :- (a, b), (c, d).", "a. b. c. d.", "p"}, {"p :- (a, b), (c, d).", "a. b. d.", ""},
		// Facts that no goal can be; names that reserved predicates have, with other numbers of Args.
		{"p :- q.", "true. q. (a,b). \\+ a. (a:-b). nl. [a].", "p"}, {"p(X) :- true(X), call.", "true(1). call. call(a). true.", "p(1)"}, {"p(X) :- q(X).", "q((a,b)). q(true).", "p(true); p((a,b))"},
		{"p(X) :- q(X).", "q. q(1,2). q(1). 'Q'(2).", "p(1)"},
	} {
		got, err := proof.Step(clauses(t, x.program), readAll(t, x.facts))
		if err != api.OK || printedTerms(t, got) != x.want {
			t.Errorf("%s of %s: %s, %v", x.program, x.facts, printedTerms(t, got), err)
		}
	}
}

func TestStepOfWhatIsNotSafe(t *testing.T) {
	for _, x := range []struct {
		program, facts string
		want           api.Errno
	}{
		{"p(X).", "", api.ErrSafe}, {"q. p(f(X)).", "q.", api.ErrSafe}, {"p(X) :- q.", "", api.OK}, {"p(X) :- q.", "r. q(a).", api.OK}, {"p(X) :- q.", "q.", api.ErrSafe},
		{"p(X,Y) :- q(X).", "q(a).", api.ErrSafe}, {"p(X,Y) :- q(X).", "r(a).", api.OK}, {"p(X,Y) :- q(X), r(X).", "q(a). r(b).", api.OK}, {"p(X,Y) :- q(X), r(X).", "q(a). q(b). r(b).", api.ErrSafe},
		{"p(X,Y) :- q(X), r(Z).", "q(a).", api.OK}, {"p(X,Y) :- q(X), r(Z).", "q(a). r(1).", api.ErrSafe}, {"p(a) :- q(X).", "q(1).", api.OK}, {"p(X) :- q(X). p(Y) :- r.", "q(1). r.", api.ErrSafe}, {"p(X) :- r. p(Y) :- q(Y).", "q(1). r.", api.ErrSafe},
		{"p(g(a,[X])) :- true, (true, true).", "", api.ErrSafe}, {"s(X,Z) :- t(X,_).", "t(a,b).", api.ErrSafe},
	} {
		got, err := proof.Step(clauses(t, x.program), readAll(t, x.facts))
		if err != x.want || err != api.OK && got != nil {
			t.Errorf("%s of %s: %s, %v", x.program, x.facts, showTerms(got), err)
		}
	}
}

func TestStepErrors(t *testing.T) {
	good := []api.Term{a("a"), c("p", i(3))}
	unsafe := fact(c("p", v(0)))
	for _, f := range []api.Term{v(0), v(api.MaxVar), i(0), i(least), c("p", v(0)), c("p", a("a"), c("f", i(1), v(3))), c(",", a("a"), v(0)), c("!", v(1))} {
		for _, facts := range [][]api.Term{{f}, append(good[:2:2], f), append([]api.Term{f}, good...)} {
			if got, err := proof.Step([]api.Clause{unsafe}, facts); err != api.ErrKind || got != nil {
				t.Errorf("%s: %s, %v", showTerms(facts), showTerms(got), err)
			}
			if got, err := proof.Step(nil, facts); err != api.ErrKind || got != nil {
				t.Errorf("%s without clauses: %s, %v", showTerms(facts), showTerms(got), err)
			}
			// What the clauses tell comes first.
			for _, x := range []struct {
				clause api.Clause
				want   api.Errno
			}{{api.Clause{}, api.ErrTerm}, {fact(v(0)), api.ErrClause}, {rule(a("a"), a("!")), api.ErrKind}} {
				if got, err := proof.Step([]api.Clause{unsafe, x.clause}, facts); err != x.want || got != nil {
					t.Errorf("%s: %s, %v, not %v", showTerms(facts), showTerms(got), err, x.want)
				}
			}
		}
	}
	// Of a fact that is no term ErrTerm is told ahead of all.
	for _, f := range nones() {
		for _, more := range [][]api.Clause{nil, {unsafe}, {{}}, {fact(v(0))}, {rule(a("a"), a("!"))}} {
			for _, facts := range [][]api.Term{{f}, {a("a"), f}, {v(0), f}, {f, i(3)}} {
				if got, err := proof.Step(more, facts); err != api.ErrTerm || got != nil {
					t.Errorf("%s: %s, %v", showTerms(facts), showTerms(got), err)
				}
			}
		}
	}
}

// TestStepTakesNoMoreThanItNeeds: of goals that say nothing more of the head it is enough that they can be made facts,
// and a fact that is given often is one.
func TestStepTakesNoMoreThanItNeeds(t *testing.T) {
	var facts []api.Term
	for range 10 {
		for k := range 300 {
			facts = append(facts, c("q", i(int64(k))))
		}
	}
	for program, want := range map[string]int{
		"p(X) :- q(X), q(A), q(B), q(C), q(D).": 300, "p :- q(A), q(B), q(C), q(D), q(E).": 1, "p(1). p(X) :- q(X), q(X), q(X).": 300, "p(X) :- q(X), q(A), q(A), no(A).": 0,
	} {
		if got, err := proof.Step(clauses(t, program), facts); err != api.OK || len(got) != want {
			t.Error(program, len(got), err)
		}
	}
	often := make([]api.Term, 1000)
	for k := range often {
		often[k] = c("q", a("a"))
	}
	if got, err := proof.Step(clauses(t, "p(X,Y,Z,W) :- q(X), q(Y), q(Z), q(W)."), often); err != api.OK || printedTerms(t, got) != "p(a,a,a,a)" {
		t.Error(len(got), err)
	}
	if got, err := proof.Step(clauses(t, "p(X,Y) :- q(X), q(A), q(B), q(C), q(D)."), facts); err != api.ErrSafe || got != nil {
		t.Error(len(got), err)
	}
}
