package grammar_test

import (
	"testing"

	"hornbook/api"
	"hornbook/grammar"
)

func TestPhrase(t *testing.T) {
	for _, x := range []struct{ three, want string }{
		{"t(s,[a,b],[])", "s([a,b],[])"}, {"t(s(1),X,Y)", "s(1,_0,_1)"}, {"t((a,b),X,[])", "a(_0,_1),b(_1,[])"}, {"t([],1,f(X))", "1 = f(_0)"}, {"t([a,b],L,[c])", "_0 = [a,b,c]"}, {"t([a,b],L,d)", "_0 = [a,b|d]"},
		{"t((a,b),[x],[])", "a([x],_0),b(_0,[])"}, {"t((a,b,c),[x],[])", "a([x],_0),b(_0,_1),c(_1,[])"}, {"t(((a,b),c),[x],[])", "(a([x],_0),b(_0,_1)),c(_1,[])"},
		{"t(\\+ a,[x],R)", "\\+ a([x],_1),[x] = _0"}, {"t((\\+ a,b),[x],R)", "(\\+ a([x],_1),[x] = _2),b(_2,_0)"}, {"t((\\+ (a,b),c),1,2)", "(\\+ (a(1,_0),b(_0,_1)),1 = _2),c(_2,2)"},
		{"t((a,b;c->d),f(X),g(X))", "a(f(_0),_1),b(_1,g(_0)) ; c(f(_0),_2) -> d(_2,g(_0))"}, {"t((a(Z),{Y}),f(X),g(W))", "a(_0,f(_2),_4),call(_1),_4 = g(_3)"},
		{"t(X,X,X)", "call(_0,_0,_0)"}, {"t((X,!),X,X)", "call(_0,_0,_1),!,_1 = _0"}, {"t({},a,b)", "a = b"}, {"t(call(X,a),b,c)", "call(_0,a,b,c)"},
		{"t((a;b;c),[x,Y],[Y])", "a([x,_0],[_0]) ; b([x,_0],[_0]) ; c([x,_0],[_0])"},
	} {
		three := read(t, x.three).Args
		got, err := grammar.Phrase(three[0], three[1], three[2])
		if err != api.OK || printed(got) != x.want {
			t.Errorf("%s: %s, %v, not %s", x.three, printed(got), err, x.want)
		}
	}
}

// TestPhraseNumbers: from 1 more than the greatest, whichever of the three has it; variables that were there stay.
func TestPhraseNumbers(t *testing.T) {
	for k := range 3 {
		for _, n := range []int64{0, 1, 5, 1 << 31, 1 << 39, api.MaxVar - 2} {
			three := []api.Term{c(",", c("a", a("x")), c(",", a("b"), a("c"))), a("l"), a("r")}
			with := three
			switch k {
			case 0:
				with[0] = c(",", c("a", v(n)), c(",", a("b"), a("c")))
			default:
				with[k] = c("f", v(0), v(n), v(n/2))
			}
			got, err := grammar.Phrase(with[0], with[1], with[2])
			want := c(",", c("a", with[0].Args[0].Args[0], with[1], v(n+1)), c(",", c("b", v(n+1), v(n+2)), c("c", v(n+2), with[2])))
			if err != api.OK || !same(got, want) {
				t.Errorf("%d, %d: %s, %v", k, n, show(got), err)
			}
		}
	}
}

// TestPhraseLarge: as many new variables as there are numbers for, and one more; behind all other errors.
func TestPhraseLarge(t *testing.T) {
	for _, x := range []struct {
		body string
		news int64
	}{
		{"a", 0}, {"[b,c]", 0}, {"(a;b;!)", 0}, {"{a,b}", 0}, {"{}", 0}, {"call((a,b))", 0}, {"a((b,c))", 0}, {"[(b,c)]", 0}, {"a,b", 1}, {"a->b", 1}, {"\\+ a", 1}, {"\\+ (a;b)", 1}, {"\\+ \\+ a", 2}, {"a,b,c", 2}, {"(a,b->c;d)", 2}, {"(a,b;c,d),e", 3}, {"\\+ (a,\\+ b)", 3},
	} {
		body := read(t, x.body)
		for _, at := range [][2]api.Term{{c("f", v(api.MaxVar-x.news)), a("[]")}, {v(0), v(api.MaxVar - x.news)}} {
			if got, err := grammar.Phrase(body, at[0], at[1]); err != api.OK || x.news > 0 && greatestOf(got) != api.MaxVar {
				t.Errorf("%s, %s: %s, %v", x.body, show(c("t", at[0], at[1])), show(got), err)
			}
		}
		if x.news == 0 {
			continue
		}
		for _, above := range []int64{1, x.news} {
			high := v(api.MaxVar - x.news + above)
			for _, at := range [][2]api.Term{{c("f", high), a("[]")}, {v(0), high}} {
				refusedPhrase(t, body, at[0], at[1], api.ErrLarge)
				refusedPhrase(t, c(",", body, i(1)), at[0], at[1], api.ErrKind)
				refusedPhrase(t, c(";", body, a("=")), at[0], at[1], api.ErrClause)
				refusedPhrase(t, c("->", of("call", 7), c(",", body, i(1))), at[0], at[1], api.ErrLarge)
			}
		}
	}
	// A variable that stands in the body alone counts as well.
	refusedPhrase(t, c(",", v(api.MaxVar), a("a")), a("x"), a("y"), api.ErrLarge)
	refusedPhrase(t, c(",", c("{}", v(api.MaxVar)), a("a")), a("x"), a("y"), api.ErrLarge)
}

func refusedPhrase(t *testing.T, body, s, r api.Term, want api.Errno) {
	t.Helper()
	if got, err := grammar.Phrase(body, s, r); err != want || !isZero(got) {
		t.Errorf("%s, %s, %s: %s, %v, not %v", show(body), show(s), show(r), show(got), err, want)
	}
}

// refusedBody: of a body, by itself, in each place of others, and in a rule.
func refusedBody(t *testing.T, body api.Term, want api.Errno) {
	t.Helper()
	for _, x := range []api.Term{body, c(",", body, a("a")), c(",", a("a"), body), c(";", body, a("a")), c(";", a("a"), body), c("->", body, a("a")), c("->", a("a"), body), c("\\+", body), c(",", c("\\+", c(";", a("b"), body)), v(0))} {
		refusedPhrase(t, x, v(0), a("[]"), want)
		refused(t, arrow(a("s"), x), want)
	}
	// Where it is no body it is no error.
	for _, x := range []api.Term{list(a("[]"), body), c("a", body), c("call", body), c("{}", c("f", body)), c(",", body), c("->", body, body, body), c("\\+", body, body)} {
		if _, err := grammar.Phrase(x, body, body); err != api.OK {
			t.Errorf("%s: %v", show(x), err)
		}
	}
}

func TestRefusedBodies(t *testing.T) {
	for _, x := range []api.Term{
		i(0), i(1), i(least), i(greatest),
		c(".", a("a"), a("b")), c(".", a("a"), v(0)), c(".", a("a"), i(1)), c(".", a("a"), c(".", a("b"), v(0))), c(".", a("a"), c(".", a("b"))), c(".", a("a"), c("[]", a("b"))), c(".", a("[]"), a("{}")), list(a("x"), a("a"), a("b"), a("c")),
		c("{}", i(1)), c("{}", c(",", a("a"), i(1))), c("{}", c(";", i(1), a("a"))), c("{}", c("->", c(",", v(0), i(7)), a("a"))),
	} {
		refusedBody(t, x, api.ErrKind)
	}
	refusedBody(t, of("a", 49), api.ErrLarge)
	refusedBody(t, of("=", 50), api.ErrLarge)
	refusedBody(t, of("", 49), api.ErrLarge)
	for n := 7; n <= api.MaxArity; n++ {
		refusedBody(t, of("call", n), api.ErrLarge)
	}
}

// TestReservedBodies: by the goal, not by the body itself.
func TestReservedBodies(t *testing.T) {
	for _, name := range append(reservedNames(), otherNames()...) {
		for n := 0; n <= api.MaxArity; n++ {
			body := of(name, n)
			if isTabled(body) {
				continue
			}
			switch {
			case isReserved(name, n+2):
				refusedBody(t, body, api.ErrClause)
			case n+2 > api.MaxArity:
				refusedBody(t, body, api.ErrLarge)
			default:
				want := c(name, append(of(name, n).Args, v(0), a("[]"))...)
				if got, err := grammar.Phrase(body, v(0), a("[]")); err != api.OK || !same(got, want) {
					t.Errorf("%s: %s, %v", show(body), show(got), err)
				}
			}
		}
	}
}

// isTabled: by a line of the table but the last.
func isTabled(t api.Term) bool {
	for _, name := range []string{",", ";", "->", "."} {
		if isOf(t, name, 2) {
			return true
		}
	}
	return isOf(t, "\\+", 1) || isOf(t, "[]", 0) || isOf(t, "{}", 0) || isOf(t, "{}", 1) || isOf(t, "!", 0) || t.Name == "call" && len(t.Args) > 0
}

// TestFirstFromTheLeft: of several errors.
func TestFirstFromTheLeft(t *testing.T) {
	wrong := []struct {
		body api.Term
		err  api.Errno
	}{{i(1), api.ErrKind}, {list(v(0), a("a")), api.ErrKind}, {c("{}", i(1)), api.ErrKind}, {of("a", 49), api.ErrLarge}, {of("call", 7), api.ErrLarge}, {a("="), api.ErrClause}, {c("arg", a("a")), api.ErrClause}, {a("call"), api.ErrClause}}
	for _, x := range wrong {
		for _, y := range wrong {
			for _, name := range []string{",", ";", "->"} {
				refusedBody(t, c(name, x.body, y.body), x.err)
				refusedBody(t, c(name, c(",", a("a"), x.body), c(";", y.body, y.body)), x.err)
				refusedBody(t, c(name, c("\\+", x.body), y.body), x.err)
				refusedBody(t, c(name, c("\\+", c(";", c("->", a("a"), a("b")), x.body)), c(",", y.body, a("b"))), x.err)
			}
		}
	}
}

func TestPhraseOfNones(t *testing.T) {
	for _, x := range nones() {
		for _, y := range []api.Term{a("a"), v(api.MaxVar), i(1), a("="), {}} {
			refusedPhrase(t, x, y, y, api.ErrTerm)
			refusedPhrase(t, y, x, y, api.ErrTerm)
			refusedPhrase(t, y, y, x, api.ErrTerm)
			refusedPhrase(t, c(",", i(1), y), c("f", v(api.MaxVar)), x, api.ErrTerm)
		}
	}
}
