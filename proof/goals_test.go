package proof_test

import (
	"strings"
	"testing"

	"hornbook/api"
	"hornbook/proof"
)

func TestGoals(t *testing.T) {
	for body, want := range map[string]string{
		"true": "", "a": "a", "p(X,f(Y,X))": "p(_0,f(_1,_0))", "a,b": "a; b", "a,b,c": "a; b; c", "(a,b),c": "a; b; c", "((a,b),(c,d)),e": "a; b; c; d; e",
		"a,(true,b(X)),c": "a; b(_0); c", "true,true": "", "true,a": "a", "a,true": "a", "(true,true),(true,a,true)": "a", "a,a,a": "a; a; a",
		"p((q,r)),s": "p((q,r)); s", "p(true,X,3)": "p(true,_0,3)", "p(\\+ a),q(!)": "p(\\+ a); q(!)", "[]": "[]", "[a|X],''": "[a|_0]; ''", "{}": "{}", "- 1": "- 1",
	} {
		got, err := proof.Goals(read(t, body))
		if err != api.OK || printedTerms(t, got) != want {
			t.Errorf("%s: %s, %v", body, printedTerms(t, got), err)
		}
	}
	big := c("p", v(api.MaxVar), i(least))
	if got, err := proof.Goals(c(",", big, c("q", v(0)))); err != api.OK || len(got) != 2 || !same(got[0], big) || !same(got[1], c("q", v(0))) {
		t.Error(showTerms(got), err)
	}
}

func TestGoalsOfReserved(t *testing.T) {
	are, arent := likeReserved()
	for _, x := range are {
		if same(x, a("true")) || isOf(x, ",", 2) {
			continue
		}
		for _, body := range []api.Term{x, c(",", x, a("a")), c(",", a("a"), x), c(",", c(",", a("true"), x), a("b")), c(",", c("p", v(0)), c(",", a("a"), x))} {
			if got, err := proof.Goals(body); err != api.ErrKind || got != nil {
				t.Errorf("%s: %s, %v", show(body), showTerms(got), err)
			}
		}
	}
	for _, x := range arent {
		if got, err := proof.Goals(c(",", x, c(",", a("a"), x))); err != api.OK || len(got) != 3 || !same(got[0], x) || !same(got[2], x) {
			t.Errorf("%s: %s, %v", show(x), showTerms(got), err)
		}
	}
}

func TestGoalsOfTheRest(t *testing.T) {
	for _, body := range []string{"X", "3", "a,X", "X,a", "a,3", "3,a", "(a,b,4),c", "(a;b)", "a,(b;c)", "(a->b)", "a,\\+ b", "!", "a,!", "call(X)", "X = Y", "a,fail", "(true,X)"} {
		if got, err := proof.Goals(read(t, body)); err != api.ErrKind || got != nil {
			t.Errorf("%s: %s, %v", body, showTerms(got), err)
		}
	}
	for _, x := range nones() {
		for _, body := range []api.Term{x, c("p", x), c(",", a("a"), x), c(",", i(3), x), c(",", x, v(0)), c(";", x, a("a"))} {
			if got, err := proof.Goals(body); err != api.ErrTerm || got != nil {
				t.Errorf("%s: %s, %v", show(body), showTerms(got), err)
			}
		}
	}
}

// calls are those that take clauses, with all else as it should be.
func calls() map[string]func(l []api.Clause) api.Errno {
	return map[string]func(l []api.Clause) api.Errno{
		"Shows": func(l []api.Clause) api.Errno {
			got, err := proof.Shows(l, tree(0))
			if (err == api.OK) == isZero(got) {
				return -1
			}
			return err
		},
		"Find": func(l []api.Clause) api.Errno {
			got, err := proof.Find(l, a("here"), 1, 1)
			if (err == api.OK) == (len(got) == 0) {
				return -1
			}
			return err
		},
		"Step": func(l []api.Clause) api.Errno {
			got, err := proof.Step(l, []api.Term{a("a")})
			if (err == api.OK) == (len(got) == 0) {
				return -1
			}
			return err
		},
	}
}

// TestClauses: which error is told of clauses, wherever such as have one stand.
func TestClauses(t *testing.T) {
	here := fact(a("here"))
	long := a(strings.Repeat("x", api.MaxName+1))
	none := []api.Clause{{}, rule(a("a"), api.Term{}), rule(api.Term{}, a("a")), rule(long, i(3)), rule(i(3), long), rule(c("p", v(-1)), a("true"))}
	wrong := []api.Clause{fact(v(0)), fact(i(3)), fact(c(",", a("a"), a("b"))), fact(c("=", v(0), v(1))), rule(a("a"), i(3)), rule(a("a"), v(0)), rule(a("a"), c(",", a("b"), i(3))), rule(a("a"), c(",", v(0), a("b"))), fact(c("f", v(1))), rule(c("p", v(1)), c("p", v(0))), rule(c("f", v(0)), c("q", v(2))), rule(a("a"), c(";", a("b"), v(0)))}
	bent := []api.Clause{rule(a("a"), c("call", v(0))), rule(a("a"), a("!")), rule(a("a"), c(",", a("b"), a("fail"))), rule(a("a"), c(";", a("b"), a("c"))), rule(a("a"), c("\\+", a("b"))), rule(c("p", v(0)), c(",", c("q", v(0)), c("is", v(1), v(0)))), rule(a("a"), c(",", c("->", a("a"), a("b")), a("c")))}
	for name, call := range calls() {
		check := func(want api.Errno, l ...api.Clause) {
			t.Helper()
			if got := call(l); got != want {
				t.Errorf("%s of\n%s%v, not %v", name, showClauses(l), got, want)
			}
		}
		check(api.OK, here)
		for k, x := range none {
			check(api.ErrTerm, x)
			check(api.ErrTerm, here, x)
			for _, y := range bent {
				check(api.ErrTerm, here, y, x)
				check(api.ErrTerm, here, x, y)
			}
			// Of two that Plain does not take the first one's error is told.
			y := wrong[k]
			check(api.ErrTerm, here, x, y)
			check(api.ErrClause, here, y, x)
			check(api.ErrClause, here, bent[k], y, x)
		}
		for _, x := range wrong {
			check(api.ErrClause, x)
			check(api.ErrClause, here, x)
			for _, y := range bent {
				check(api.ErrClause, here, y, x)
				check(api.ErrClause, here, x, y)
			}
		}
		for _, x := range bent {
			check(api.ErrKind, x)
			check(api.ErrKind, here, x)
			check(api.ErrKind, here, here, x, here)
		}
		for _, x := range []api.Clause{rule(a("a"), c(",", a("true"), a("b"))), rule(a("a"), a("true")), rule(c("p", v(0)), c(",", c(",", c("q", v(1)), a("r")), c("q", v(0)))), rule(a("call"), c("true", a("fail")))} {
			check(api.OK, here, x)
		}
	}
	// Without clauses there is nothing to take, to prove, or to follow.
	if got, err := proof.Shows(nil, tree(0)); err != api.ErrArg || !isZero(got) {
		t.Error(show(got), err)
	}
	if got, err := proof.Find(nil, a("a"), 1000, 5); err != api.OK || len(got) != 0 {
		t.Error(showProofs(got), err)
	}
	if got, err := proof.Step([]api.Clause{}, []api.Term{a("a")}); err != api.OK || len(got) != 0 {
		t.Error(showTerms(got), err)
	}
}
