package magic_test

import (
	"strings"
	"testing"

	"hornbook/api"
	"hornbook/magic"
)

var (
	long    = a(strings.Repeat("x", api.MaxName+1))
	greater = strings.Repeat("x", 41) // than a name that is derived may be
	great   = strings.Repeat("x", 40)
)

// Clauses with an error each, in the order in which they are told.
var (
	none  = []api.Clause{{}, rule(a("a"), api.Term{}), rule(api.Term{}, a("a")), rule(long, i(3)), rule(c("p", v(-1)), a("true")), rule(a("a"), c(",", a("b"), c("p", long))), rule(a("a"), not(api.Term{}))}
	wrong = []api.Clause{fact(v(0)), fact(i(3)), fact(c(",", a("a"), a("b"))), fact(not(a("a"))), rule(a("a"), i(3)), rule(a("a"), v(0)), rule(a("a"), c(",", a("b"), i(3))), fact(c("p", v(1))), rule(c("p", v(1)), c("p", v(0))), rule(c("?p", v(0)), c("q", v(2)))}
	// Neither head nor goal may be other than flat.
	noRules = []api.Clause{
		fact(c("p", c("f", a("a")))), rule(c("p", c("f", v(0))), c("q", v(0))), rule(a("a"), c("p", c("f", a("a")))), rule(c("p", v(0)), c(",", c("q", v(0)), c("p", a("a"), c("f", v(0))))),
		rule(a("a"), c("call", v(0))), rule(a("a"), a("!")), rule(a("a"), c(";", a("b"), a("c"))), rule(c("p", v(0)), c(",", c("q", v(0)), c("is", v(1), v(0)))), rule(a("a"), c("=", a("a"), a("a"))),
		rule(a("a"), not(v(0))), rule(a("a"), not(a("true"))), rule(a("a"), not(not(a("b")))), rule(a("a"), not(c("p", c("f", a("a"))))),
	}
	negated = []api.Clause{
		rule(a("a"), not(a("b"))), rule(c("p", v(0)), c(",", c("q", v(0)), not(c("r", v(0))))), rule(a("a"), c(",", a("true"), c(",", not(a("b")), a("c")))), rule(a("p"), not(a("p"))),
		// These are not safe either.
		rule(c("p", v(0)), not(c("q", v(0)))), rule(a("a"), not(c("q", v(0)))),
	}
	notSafe = []api.Clause{fact(c("p", v(0))), fact(c("p", a("a"), v(0))), rule(c("p", v(0)), a("a")), rule(c("p", v(0)), c("q", v(1))), rule(c("p", v(0), v(1)), c("q", v(0))), rule(c("p", v(0)), c(",", a("true"), a("true")))}
	notFree = []api.Clause{
		fact(a("^")), fact(a("p^")), fact(c("^p", i(1))), fact(c("p^b", a("a"))), rule(a("a"), c("^", a("a"), a("b"))), rule(a("a"), c(",", a("b"), a("x^y"))), rule(c("p^f", v(0)), c("q", v(0))),
		fact(a("?")), fact(c("?p", a("a"))), rule(a("?p"), a("a")), rule(a("a"), c("?q", a("a"))), rule(c("p", v(0)), c(",", c("q", v(0)), c("?q^f", v(0)))),
		// One that would be too large as well.
		rule(a(greater+"^"), a("a")), rule(of("?", 41), a("a")),
	}
	large = []api.Clause{rule(a(greater), a("a")), rule(c(greater, v(0)), c("q", v(0))), rule(of("p", 41), a("a")), rule(of("p", api.MaxArity), c(",", a("true"), a("true"))), rule(a(strings.Repeat("y", api.MaxName)), a("a"))}
)

// errorOf is what Magic tells; -1, if it answers something beside an error.
func errorOf(l []api.Clause, query api.Term) api.Errno {
	got, asks, err := magic.Magic(l, query)
	if err != api.OK && (got != nil || !same(asks, api.Term{}) || asks.Args != nil) {
		return -1
	}
	return err
}

type kind struct {
	err api.Errno
	l   []api.Clause
}

// kinds of errors that clauses have, in the order in which they are told.
func kinds() []kind {
	return []kind{{api.ErrTerm, none}, {api.ErrClause, wrong}, {api.ErrKind, noRules}, {api.ErrKind, negated}, {api.ErrSafe, notSafe}, {api.ErrKind, notFree}, {api.ErrLarge, large}}
}

// TestErrors: which error is told of clauses, wherever such as have one stand, and whether the query is derived or not.
func TestErrors(t *testing.T) {
	here := rule(a("here"), a("there"))
	for _, query := range []api.Term{a("here"), a("there"), c("e", v(0), v(1))} {
		check := func(want api.Errno, l ...api.Clause) {
			t.Helper()
			if got := errorOf(l, query); got != want {
				t.Errorf("%s of\n%s%v, not %v", show(query), showClauses(l), got, want)
			}
		}
		check(api.OK, here)
		check(api.OK)
		for k, kind := range kinds() {
			for _, x := range kind.l {
				check(kind.err, x)
				check(kind.err, here, x)
				check(kind.err, here, x, here)
				for m, other := range kinds()[k+1:] {
					for _, y := range other.l {
						// Of two that Plain does not take the first one's error is told.
						if k == 0 && m == 0 {
							continue
						}
						check(kind.err, here, x, y)
						check(kind.err, y, here, x)
					}
				}
			}
		}
		check(api.ErrTerm, here, none[0], wrong[0])
		check(api.ErrClause, here, wrong[0], none[0])
		check(api.ErrClause, noRules[0], negated[0], wrong[1], none[0])
		check(api.ErrTerm, notSafe[0], none[1], wrong[1])
	}
}

// TestQueries: which error is told of a query, and that it comes behind those of clauses, but for ErrTerm.
func TestQueries(t *testing.T) {
	fine := [][]api.Clause{nil, {rule(a("here"), a("there"))}}
	are, arent := likeReserved()
	bent := append(are, v(0), i(3), c("p", c("f", a("a"))), c("here", v(0), c("f", v(1))), not(a("here")), c(",", a("here"), a("here")), c("?p", c("f", a("a"))))
	for _, query := range bent {
		for _, l := range fine {
			if got := errorOf(l, query); got != api.ErrKind {
				t.Error(show(query), got)
			}
		}
		for _, kind := range kinds()[:5] {
			if got := errorOf([]api.Clause{kind.l[0]}, query); got != kind.err {
				t.Error(show(query), got)
			}
		}
	}
	for _, query := range arent {
		for _, l := range fine {
			if got := errorOf(l, query); got != api.OK {
				t.Error(show(query), got)
			}
		}
	}
	for _, query := range nones() {
		for _, l := range fine {
			if got := errorOf(l, query); got != api.ErrTerm {
				t.Error(show(query), got)
			}
		}
		for _, kind := range kinds() {
			if got := errorOf([]api.Clause{kind.l[0]}, query); got != api.ErrTerm {
				t.Error(show(query), got)
			}
		}
	}
	for _, query := range []api.Term{a("^"), a("?"), c("?here", v(0)), a("here^"), c("here^b", a("a")), c("a^b", v(0), v(1)), a("?" + greater), of("^", 41)} {
		for _, l := range fine {
			if got := errorOf(l, query); got != api.ErrKind {
				t.Error(show(query), got)
			}
		}
		for _, kind := range kinds()[:6] {
			if got := errorOf([]api.Clause{kind.l[0]}, query); got != kind.err {
				t.Error(show(query), got)
			}
		}
		if got := errorOf(large, query); got != api.ErrKind {
			t.Error(show(query), got)
		}
	}
}

// TestNames: where the bytes may stand that moded and asked names have, and that names of Args are none of predicates.
func TestNames(t *testing.T) {
	for _, l := range [][]api.Clause{clauses(t, "'a?'('^'). 'b??'(X) :- 'a?'(X), c('?', '^', X). d('?a^b')."), {fact(c("a", a("^"))), rule(c("b", v(0), a("?b^b")), c("a", v(0)))}} {
		for _, query := range []api.Term{c("b??", v(0)), c("b", v(0), a("?")), c("b", a("^"), v(0)), a("x?"), a(""), a("'?'")} {
			if got := errorOf(l, query); got != api.OK {
				t.Error(show(query), showClauses(l), got)
			}
		}
	}
}

// TestSizes: just how large what is derived, and the query's predicate, may be; anything else may be as large as it is.
func TestSizes(t *testing.T) {
	widest := func(name string, args int, first api.Term) api.Term {
		x := of(name, args)
		x.Args[0] = first
		return x
	}
	for _, x := range []struct {
		want  api.Errno
		l     []api.Clause
		query api.Term
	}{
		{api.OK, nil, of(great, 40)},
		{api.OK, nil, a(great)},
		{api.ErrLarge, nil, a(greater)},
		{api.ErrLarge, nil, of(greater, 1)},
		{api.ErrLarge, nil, of("q", 41)},
		{api.ErrLarge, []api.Clause{fact(a(greater))}, a(greater)},
		{api.ErrLarge, []api.Clause{fact(of("q", 41))}, of("q", 41)},
		{api.OK, []api.Clause{rule(a(great), a("a"))}, a(great)},
		{api.OK, []api.Clause{rule(a(great), a("a"))}, a("a")},
		{api.ErrLarge, []api.Clause{rule(a(greater), a("a"))}, a("a")},
		{api.ErrLarge, []api.Clause{rule(a(greater), a("a"))}, a("b")},
		{api.ErrLarge, []api.Clause{rule(a(greater), a("a"))}, a(greater)},
		{api.OK, []api.Clause{rule(of("q", 40), a("a"))}, a("a")},
		{api.ErrLarge, []api.Clause{rule(of("q", 41), a("a"))}, a("a")},
		{api.ErrLarge, []api.Clause{fact(of("q", 41)), rule(of("q", 41), a("a")), fact(a("a"))}, a("a")},
		{api.ErrLarge, []api.Clause{rule(of("q", 41), c(",", a("true"), a("true")))}, a("a")},
		// Facts alone, and goals of which there is no clause.
		{api.OK, []api.Clause{fact(a(strings.Repeat("y", api.MaxName))), fact(of("q", api.MaxArity)), rule(a("a"), c(",", of("q", api.MaxArity), of(strings.Repeat("z", api.MaxName), api.MaxArity)))}, a("a")},
		{api.OK, []api.Clause{fact(of("q", api.MaxArity)), rule(c("r", v(0)), widest("q", api.MaxArity, v(0)))}, c("r", v(0))},
	} {
		if got := errorOf(x.l, x.query); got != x.want {
			t.Errorf("%s of\n%s%v, not %v", show(x.query), showClauses(x.l), got, x.want)
		}
	}
	// As large as may be, in all modes that come up.
	l := []api.Clause{rule(widest(great, 40, v(0)), widest(great, 39, v(0))), rule(widest(great, 39, v(0)), widest(great, 40, v(0))), rule(widest(great, 40, v(0)), c("e", v(0)))}
	for _, query := range []api.Term{of(great, 40), widest(great, 40, v(3)), widest(great, 39, v(0))} {
		want, wantAsks, _ := naiveMagic(l, query)
		got, asks, err := magic.Magic(l, query)
		if err != api.OK || showClauses(got) != showClauses(want) || !same(asks, wantAsks) || len(asks.Name) != 41+len(query.Args) {
			t.Errorf("%s, %v of\n%s", show(asks), err, showClauses(got))
		}
	}
}
