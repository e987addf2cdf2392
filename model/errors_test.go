package model_test

import (
	"strings"
	"testing"

	"hornbook/api"
	"hornbook/model"
)

// calls are all of the chapter, with a query as it should be; -1, if something is answered beside an error, or nothing without one.
func calls() map[string]func(l []api.Clause) api.Errno {
	told := func(some int, is bool, err api.Errno) api.Errno {
		if (err == api.OK) != is || (some > 0) != is {
			return -1
		}
		return err
	}
	return map[string]func(l []api.Clause) api.Errno{
		"Levels": func(l []api.Clause) api.Errno {
			got, err := model.Levels(l)
			return told(len(got), got != nil, err)
		},
		"Model": func(l []api.Clause) api.Errno {
			got, err := model.Model(l)
			return told(len(got), got != nil, err)
		},
		"Ask": func(l []api.Clause) api.Errno {
			got, err := model.Ask(l, a("here"))
			return told(len(got), got != nil, err)
		},
	}
}

// Clauses with an error each, by kinds.
var (
	long    = a(strings.Repeat("x", api.MaxName+1))
	none    = []api.Clause{{}, rule(a("a"), api.Term{}), rule(api.Term{}, a("a")), rule(long, i(3)), rule(i(3), long), rule(c("p", v(-1)), a("true")), rule(a("a"), not(api.Term{})), rule(a("a"), not(c("p", long)))}
	wrong   = []api.Clause{fact(v(0)), fact(i(3)), fact(c(",", a("a"), a("b"))), fact(c("=", v(0), v(1))), fact(not(a("a"))), rule(a("a"), i(3)), rule(a("a"), v(0)), rule(a("a"), c(",", a("b"), i(3))), rule(a("a"), c(",", v(0), a("b"))), fact(c("p", v(1))), rule(c("p", v(1)), c("p", v(0))), rule(c("p", v(0)), c("q", v(2))), rule(a("a"), c(";", a("b"), v(0)))}
	noRules = []api.Clause{
		// Heads that are not flat.
		fact(c("p", c("f", a("a")))), fact(c("p", a("a"), c("f", v(0)))), rule(c("p", c("f", v(0))), c("q", v(0))), fact(c("p", c(".", a("a"), a("[]")))),
		// Goals that are not flat.
		rule(a("a"), c("p", c("f", a("a")))), rule(c("p", v(0)), c("q", v(0), c("f", v(0)))), rule(a("a"), c(",", a("b"), c("p", c("f", a("a"))))), rule(a("a"), not(c("p", c("f", a("a"))))), rule(c("p", v(0)), c(",", c("q", v(0)), not(c("p", a("a"), c("f", v(0)))))),
		// Other goals.
		rule(a("a"), c("call", v(0))), rule(a("a"), a("!")), rule(a("a"), c(",", a("b"), a("fail"))), rule(a("a"), c(";", a("b"), a("c"))), rule(a("a"), c("->", a("b"), a("c"))), rule(c("p", v(0)), c(",", c("q", v(0)), c("is", v(1), v(0)))), rule(a("a"), c("=", a("a"), a("a"))), rule(a("a"), a("nl")), rule(a("a"), c(":-", a("a"))), rule(a("a"), c("call", a("b"))),
		// \+ of something else.
		rule(a("a"), not(v(0))), rule(a("a"), not(i(3))), rule(a("a"), not(a("true"))), rule(a("a"), not(a("fail"))), rule(a("a"), not(not(a("b")))), rule(a("a"), not(c(",", a("b"), a("c")))), rule(a("a"), not(c("=", a("a"), a("b")))), rule(a("a"), c(",", a("true"), not(c("call", a("b"))))), rule(a("a"), c("\\+", a("a"), c("f", a("b")))),
	}
	notSafe = []api.Clause{
		fact(c("p", v(0))), fact(c("p", a("a"), v(0))), rule(c("p", v(0)), a("a")), rule(c("p", v(0)), c("q", v(1))), rule(c("p", v(0), v(1)), c("q", v(0))), rule(c("p", v(0)), not(c("q", v(0)))), rule(a("a"), not(c("q", v(0)))), rule(c("p", v(0)), c(",", c("q", v(0)), not(c("r", v(0), v(1))))),
		rule(c("p", v(0)), c(",", not(c("r", v(1))), c("q", v(0)))), rule(a("a"), c(",", not(c("p", v(0))), not(c("q", v(0))))), rule(c("p", v(0)), c(",", not(c("p", v(0))), c("q", v(1)))),
	}
	loops = []api.Clause{rule(a("a"), not(a("a"))), rule(c("p", v(0)), c(",", c("q", v(0)), not(c("p", v(0))))), rule(a("a"), c(",", a("a"), not(a("a"))))}
)

// TestErrors: which error is told of clauses, wherever such as have one stand.
func TestErrors(t *testing.T) {
	here := fact(a("here"))
	kinds := []struct {
		err api.Errno
		l   []api.Clause
	}{{api.ErrTerm, none}, {api.ErrClause, wrong}, {api.ErrKind, noRules}, {api.ErrSafe, notSafe}, {api.ErrLevel, loops}}
	for name, call := range calls() {
		check := func(want api.Errno, l ...api.Clause) {
			t.Helper()
			if got := call(l); got != want {
				t.Errorf("%s of\n%s%v, not %v", name, showClauses(l), got, want)
			}
		}
		check(api.OK, here)
		for k, kind := range kinds {
			for _, x := range kind.l {
				check(kind.err, x)
				check(kind.err, here, x)
				check(kind.err, here, x, here)
				for m, other := range kinds[k+1:] {
					for _, y := range other.l {
						// Of two that Plain does not take the first one's error is told.
						if k == 0 && m == 0 {
							continue
						}
						check(kind.err, here, x, y)
						check(kind.err, y, here, x)
					}
				}
			}
		}
		check(api.ErrTerm, here, none[0], wrong[0])
		check(api.ErrClause, here, wrong[0], none[0])
		check(api.ErrClause, noRules[0], loops[0], wrong[1], none[0])
		check(api.ErrTerm, notSafe[0], none[1], wrong[1])
		check(api.ErrTerm, rule(c("true"), a("a")))
	}
}

// TestRules: what may stand in a rule.
func TestRules(t *testing.T) {
	are, arent := likeReserved()
	for name, call := range calls() {
		for _, x := range arent {
			for _, y := range []api.Clause{fact(x), rule(a("here"), x), rule(x, not(a("b"))), rule(a("b"), not(x)), rule(a("b"), c(",", c(",", a("true"), x), a("c")))} {
				if got := call([]api.Clause{fact(a("here")), y}); got != api.OK {
					t.Errorf("%s of %s", name, showClauses([]api.Clause{y}))
				}
			}
		}
		for _, x := range are {
			if same(x, a("true")) || isOf(x, ",", 2) || isOf(x, "\\+", 1) {
				continue
			}
			for _, y := range []api.Clause{rule(a("b"), x), rule(a("b"), not(x)), rule(a("b"), c(",", c(",", a("true"), x), a("c"))), rule(a("b"), c(",", a("b"), not(x)))} {
				if got := call([]api.Clause{fact(a("here")), y}); got != api.ErrKind {
					t.Errorf("%s of %s", name, showClauses([]api.Clause{y}))
				}
			}
		}
	}
}

// TestQueries: which error is told of a query, and that those of clauses go ahead of it, but for ErrTerm.
func TestQueries(t *testing.T) {
	l := []api.Clause{fact(a("here"))}
	are, arent := likeReserved()
	bent := append(are, v(0), i(3), c("p", c("f", a("a"))), c("here", v(0), c("f", v(1))), not(a("here")), c(",", a("here"), a("here")))
	for _, query := range bent {
		if got, err := model.Ask(l, query); err != api.ErrKind || got != nil {
			t.Error(show(query), showTerms(got), err)
		}
		for want, some := range map[api.Errno]api.Clause{api.ErrTerm: none[0], api.ErrClause: wrong[0], api.ErrSafe: notSafe[0], api.ErrLevel: loops[0]} {
			if got, err := model.Ask(append(l[:1:1], some), query); err != want || got != nil {
				t.Error(show(query), showTerms(got), err)
			}
		}
	}
	for _, query := range arent {
		if got, err := model.Ask(l, query); err != api.OK || len(got) != 0 {
			t.Error(show(query), showTerms(got), err)
		}
	}
	for _, query := range nones() {
		for _, some := range []api.Clause{l[0], none[0], wrong[0], noRules[0], notSafe[0], loops[0]} {
			if got, err := model.Ask([]api.Clause{some}, query); err != api.ErrTerm || got != nil {
				t.Error(show(query), showTerms(got), err)
			}
		}
	}
}
