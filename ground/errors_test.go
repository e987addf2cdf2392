package ground_test

import (
	"strings"
	"testing"

	"hornbook/api"
	"hornbook/ground"
)

var long = a(strings.Repeat("x", api.MaxName+1))

// Clauses with an error each, in the order in which they are told.
var (
	none  = []api.Clause{{}, rule(a("a"), api.Term{}), rule(api.Term{}, a("a")), rule(long, i(3)), rule(c("p", v(-1)), a("true")), rule(a("a"), c(",", a("b"), c("p", long))), rule(a("a"), c("call", api.Term{}))}
	wrong = []api.Clause{
		fact(v(0)), fact(i(3)), fact(c(",", a("a"), a("b"))), fact(a("!")), rule(a("a"), i(3)), rule(a("a"), v(0)), rule(a("a"), c(",", a("b"), i(3))),
		// Their variables are not numbered as they must be.
		fact(c("p", v(1))), fact(c("p", v(1), v(0))), rule(c("p", v(1)), c("p", v(0))), fact(c("p", v(api.MaxVar))), rule(a("a"), c("p", v(10))),
		// They would be too large, and not plain.
		fact(c("p", vars(10)[1:]...)), rule(of("p", 9), c(";", v(0), v(1))), rule(of("p", 9), c(",", a("!"), v(0))),
	}
	notPlain = []api.Clause{
		rule(a("a"), a("!")), rule(a("a"), a("fail")), rule(a("a"), c("call", v(0))), rule(c("p", v(0)), c(",", c("q", v(0)), a("!"))), rule(a("a"), c(";", a("b"), a("c"))), rule(a("a"), c("->", a("b"), a("c"))),
		rule(a("a"), c("\\+", a("b"))), rule(c("p", v(0)), c("is", v(0), i(1))), rule(a("a"), c("=", a("a"), a("a"))), rule(a("a"), c(",", c(",", a("b"), c(",", a("true"), c("ground", a("a")))), a("c"))),
		// They are too large as well.
		rule(of("p", 9), a("!")), rule(a("a"), c(",", of("p", 9), a("!"))), rule(c("p", c("f", vars(11)...)), a("fail")), rule(a("a"), c(",", c("call", v(0)), of("p", 9))),
	}
	large = []api.Clause{
		fact(of("p", 9)), fact(of("p", api.MaxArity)), rule(a("a"), of("p", 9)), rule(a("a"), c(",", a("b"), c(",", of("call", 9), a("true")))), rule(of("call", 9), a("true")), rule(c("p", v(0)), c(",", c("q", v(0)), c(",", of("true", 9), a("b")))),
		fact(c("p", vars(9)...)), fact(c("p", c("f", vars(11)...))), fact(c("p", v(0), c("f", c("g", vars(10)...), v(10)))), rule(a("a"), c("p", c("f", vars(11)...))), rule(c("p", vars(8)...), c("p", v(8), v(9), v(10))),
		rule(c("p", c("f", vars(10)...)), c(",", c("q", v(0)), c(",", c("q", v(9)), c("q", v(10))))), fact(c("p", c("f", vars(50)...))), fact(c("p", c("f", vars(50)...), c("g", v(50)))),
	}
	fine = []api.Clause{fact(of("p", 8)), fact(c("p", vars(8)...)), fact(c("p", c("f", vars(10)...))), rule(c("p", vars(8)...), c(",", c("q", v(8)), c("q", v(9), of("f", 50)))), rule(a("a"), c(",", of("p", 8), c("q", c("f", c("f", vars(10)...))))), fact(c("p", of("f", 50), of("call", 9)))}
)

// errorOf is what Analyse tells; -1, if it answers something beside an error.
func errorOf(l []api.Clause) api.Errno {
	got, err := ground.Analyse(l)
	if err != api.OK && got != nil {
		return -1
	}
	return err
}

func check(t *testing.T, want api.Errno, l ...api.Clause) {
	t.Helper()
	if got := errorOf(l); got != want {
		t.Errorf("%v, not %v, of\n%s", got, want, showClauses(l))
	}
}

// TestErrors: which error is told of clauses, wherever such as have one stand.
func TestErrors(t *testing.T) {
	kinds := []struct {
		err api.Errno
		l   []api.Clause
	}{{api.ErrTerm, none}, {api.ErrClause, wrong}, {api.ErrKind, notPlain}, {api.ErrLarge, large}, {api.OK, fine}}
	here := rule(a("here"), c("there", a("a")))
	check(t, api.OK)
	for k, kind := range kinds {
		for _, x := range kind.l {
			check(t, kind.err, x)
			check(t, kind.err, here, x)
			check(t, kind.err, here, x, here)
			for m, other := range kinds[k+1:] {
				for _, y := range other.l {
					check(t, kind.err, here, x, y)
					// Of two that Plain does not take the first one's error is told.
					if k == 0 && m == 0 {
						check(t, other.err, here, y, x)
					} else {
						check(t, kind.err, y, here, x)
					}
				}
			}
		}
	}
	check(t, api.ErrTerm, large[0], notPlain[0], none[0], wrong[0])
	check(t, api.ErrClause, large[0], notPlain[0], wrong[0], none[0])
}

// TestReserved: as a head none is a clause, as a goal none but those that bodies are made of is plain; with other numbers of Args they are like any.
func TestReserved(t *testing.T) {
	are, arent := likeReserved()
	for _, x := range are {
		check(t, api.ErrClause, fact(x))
		want := api.ErrKind
		if isOf(x, ",", 2) || isOf(x, "true", 0) {
			want = api.OK
		}
		check(t, want, rule(a("here"), x))
		check(t, want, rule(c("p", v(0)), c(",", c("q", v(0)), x)))
	}
	for _, x := range arent {
		want := api.OK
		if len(x.Args) > 8 {
			want = api.ErrLarge
		}
		check(t, want, fact(x))
		check(t, want, rule(a("here"), x))
		check(t, want, rule(x, c(",", x, a("true"))))
	}
}

// TestNones: what is no term, wherever it stands.
func TestNones(t *testing.T) {
	for _, x := range nones() {
		for _, y := range []api.Clause{fact(x), rule(a("a"), x), rule(v(0), x), rule(x, i(3)), rule(c("p", v(0), x), a("!")), rule(of("p", 9), c(",", a("fail"), c(",", x, a("b"))))} {
			check(t, api.ErrTerm, y)
			check(t, api.ErrTerm, large[0], notPlain[0], y, wrong[0])
		}
	}
}
