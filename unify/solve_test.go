package unify_test

import (
	"strings"
	"testing"

	"hornbook/api"
	"hornbook/unify"
)

func TestSolve(t *testing.T) {
	long := strings.Repeat("x", api.MaxName)
	for _, x := range []struct {
		l    []api.Pair
		want []api.Bind
	}{
		{nil, nil}, {[]api.Pair{}, nil},
		{[]api.Pair{p(a("a"), a("a"))}, nil}, {[]api.Pair{p(i(-1<<63), i(-1<<63))}, nil}, {[]api.Pair{p(a(""), a(""))}, nil},
		{[]api.Pair{p(v(0), v(0))}, nil}, {[]api.Pair{p(c("f", v(0), v(1)), c("f", v(0), v(1)))}, nil},
		{[]api.Pair{p(c("f", v(0), v(1)), c("f", v(1), c("g", v(2))))}, []api.Bind{b(0, c("g", v(2))), b(1, c("g", v(2)))}},
		{[]api.Pair{p(v(0), a("a"))}, []api.Bind{b(0, a("a"))}}, {[]api.Pair{p(i(7), v(0))}, []api.Bind{b(0, i(7))}},
		{[]api.Pair{p(v(0), v(1))}, []api.Bind{b(1, v(0))}}, {[]api.Pair{p(v(1), v(0))}, []api.Bind{b(1, v(0))}},
		{[]api.Pair{p(v(5), v(3)), p(v(4), v(5))}, []api.Bind{b(4, v(3)), b(5, v(3))}},
		{[]api.Pair{p(v(9), v(8)), p(v(7), v(6)), p(v(9), v(6)), p(v(2), v(7))}, []api.Bind{b(6, v(2)), b(7, v(2)), b(8, v(2)), b(9, v(2))}},
		{[]api.Pair{p(v(9), v(8)), p(v(8), a("a"))}, []api.Bind{b(8, a("a")), b(9, a("a"))}},
		{[]api.Pair{p(v(api.MaxVar), v(0)), p(v(api.MaxVar), c(long, v(1)))}, []api.Bind{b(0, c(long, v(1))), b(api.MaxVar, c(long, v(1)))}},
		{[]api.Pair{p(v(3), c("f", v(1), v(2))), p(v(2), v(0)), p(v(3), c("f", v(2), v(5)))},
			[]api.Bind{b(1, v(0)), b(2, v(0)), b(3, c("f", v(0), v(0))), b(5, v(0))}},
		{[]api.Pair{p(v(0), c("f", v(1))), p(v(1), c("f", v(2))), p(v(2), a("a"))},
			[]api.Bind{b(0, c("f", c("f", a("a")))), b(1, c("f", a("a"))), b(2, a("a"))}},
		{[]api.Pair{p(v(0), c("f", v(1))), p(v(0), c("f", v(0+2))), p(v(2), v(1))}, []api.Bind{b(0, c("f", v(1))), b(2, v(1))}},
		{[]api.Pair{p(v(0), i(0))}, []api.Bind{b(0, i(0))}}, {[]api.Pair{p(c("f", v(0)), c("f", a("f")))}, []api.Bind{b(0, a("f"))}},
	} {
		if got, err := unify.Solve(x.l); err != api.OK || !sameBinds(got, x.want) {
			t.Errorf("%s: %s, %v", showPairs(x.l), showBinds(got), err)
		}
	}
}

func TestSolveClashes(t *testing.T) {
	for _, l := range [][]api.Pair{
		{p(a("a"), a("b"))}, {p(i(1), i(2))}, {p(i(0), a(""))}, {p(i(1), a("1"))}, {p(a("f"), c("f", a("a")))}, {p(i(0), c("", i(0)))},
		{p(c("f", a("a")), c("g", a("a")))}, {p(c("f", v(0)), c("f", v(0), v(0)))}, {p(c("f", v(0), v(1)), c("f", v(0)))},
		{p(v(0), c("f", v(0)))}, {p(c("f", v(0)), v(0))}, {p(v(0), c("f", c("g", a("a"), v(0))))}, {p(v(0), a("a")), p(v(0), a("b"))},
		{p(v(0), v(1)), p(v(1), c("f", v(0)))}, {p(v(1), c("f", v(0))), p(v(0), v(1))}, {p(v(0), c("f", v(1))), p(v(1), c("f", v(0)))},
		{p(c("f", v(0), v(1)), c("f", c("g", v(1)), c("g", v(0))))}, {p(c("f", v(0), v(0)), c("f", a("a"), a("b")))},
		{p(c("f", v(0), v(1)), c("f", v(1), c("g", v(0))))}, {p(v(0), c("f", v(1))), p(v(2), c("f", v(3))), p(v(0), v(2)), p(v(1), c("g", v(3)))},
		{p(v(0), c("f", v(1))), p(v(0), c("g", v(1)))}, {p(v(5), v(5)), p(a("a"), a("a")), p(a("a"), a("b"))},
	} {
		if got, err := unify.Solve(l); err != api.ErrClash || len(got) != 0 {
			t.Errorf("%s: %s, %v", showPairs(l), showBinds(got), err)
		}
	}
}

// checkSolve holds Solve's answer against P7, as far as it speaks of the answer alone.
func checkSolve(t *testing.T, l []api.Pair) ([]api.Bind, bool) {
	t.Helper()
	s, err := unify.Solve(l)
	want, ok := naive(l)
	if ok != (err == api.OK) || !ok && (err != api.ErrClash || len(s) != 0) || !sameBinds(s, want) {
		t.Fatalf("%s: %s, %v; not %s, %v", showPairs(l), showBinds(s), err, showBinds(want), ok)
	}
	if !ok {
		return nil, false
	}
	if !unifies(s, l) {
		t.Fatalf("%s: %s is no unifier", showPairs(l), showBinds(s))
	}
	for k, x := range s {
		if same(x.To, v(x.Var)) || k > 0 && s[k-1].Var >= x.Var {
			t.Fatalf("%s: %s", showPairs(l), showBinds(s))
		}
		for _, y := range s {
			if hasVar(y.To, x.Var) {
				t.Fatalf("%s: %s has what is bound in a To", showPairs(l), showBinds(s))
			}
		}
		if x.To.Kind == api.Var && x.To.N > x.Var {
			t.Fatalf("%s: %s binds the lesser of two variables", showPairs(l), showBinds(s))
		}
	}
	return s, true
}

// checkMostGeneral: each unifier of the pairs does the same, whether s was applied ahead of it or not.
func checkMostGeneral(t *testing.T, l []api.Pair, s []api.Bind, ok bool, others [][]api.Bind) {
	t.Helper()
	for _, u := range others {
		if !unifies(u, l) {
			continue
		}
		if !ok {
			t.Fatalf("%s: ErrClash, but %s is a unifier", showPairs(l), showBinds(u))
		}
		for n := range int64(5) {
			if !same(applied(applied(v(n), s), u), applied(v(n), u)) {
				t.Fatalf("%s: %s is not most general: %s", showPairs(l), showBinds(s), showBinds(u))
			}
		}
	}
}

func TestSolveFindsTheMostGeneral(t *testing.T) {
	others := substitutions()
	for _, x := range pool() {
		for _, y := range pool() {
			l := []api.Pair{p(x, y)}
			s, ok := checkSolve(t, l)
			checkMostGeneral(t, l, s, ok, others)
		}
	}
}

func TestSolveOfSeveral(t *testing.T) {
	terms := []api.Term{v(0), v(1), v(2), a("a"), c("g", v(0)), c("g", v(1)), c("f", v(1), v(2)), c("f", v(0), c("g", v(0)))}
	var pairs []api.Pair
	for k, x := range terms {
		for _, y := range terms[k:] {
			pairs = append(pairs, p(x, y), p(y, x))
		}
	}
	others := substitutions()[:100]
	for _, x := range pairs {
		for _, y := range pairs {
			l := []api.Pair{x, y}
			s, ok := checkSolve(t, l)
			checkMostGeneral(t, l, s, ok, others)
		}
	}
}

func TestSolveOfMany(t *testing.T) {
	dice, solved := chance(1), 0
	for range 30000 {
		l := make([]api.Pair, dice.below(8))
		for k := range l {
			l[k] = p(dice.term(9, 2), dice.term(9, 2))
		}
		if _, ok := checkSolve(t, l); ok && len(l) > 2 {
			solved++
		}
	}
	if solved < 2000 {
		t.Error("too few of them have a unifier:", solved)
	}
}

// TestSolveWhateverTheOrder: the pairs, and the sides of a pair, may be told in any order.
func TestSolveWhateverTheOrder(t *testing.T) {
	dice := chance(2)
	for range 2000 {
		l := make([]api.Pair, 2+dice.below(5))
		for k := range l {
			l[k] = p(dice.term(9, 2), dice.term(9, 1))
		}
		s, err := unify.Solve(l)
		for range 5 {
			k, m := dice.below(len(l)), dice.below(len(l))
			l[k], l[m] = p(l[m].B, l[m].A), p(l[k].A, l[k].B)
			if u, again := unify.Solve(l); again != err || !sameBinds(u, s) {
				t.Fatalf("%s: %s, %v; not %s, %v", showPairs(l), showBinds(u), again, showBinds(s), err)
			}
		}
	}
}

// TestSolveOfNoTerm: ErrTerm comes ahead of ErrClash, from each place.
func TestSolveOfNoTerm(t *testing.T) {
	for _, x := range nones() {
		for _, l := range [][]api.Pair{
			{p(x, v(0))}, {p(v(0), x)}, {p(x, x)}, {p(a("a"), a("b")), p(x, v(0))}, {p(a("a"), a("b")), p(v(0), x)},
			{p(a("a"), x), p(a("a"), a("b"))}, {p(v(0), c("f", v(0))), p(a("a"), a("a")), p(a("a"), x)},
		} {
			if got, err := unify.Solve(l); err != api.ErrTerm || len(got) != 0 {
				t.Errorf("%s: %s, %v", showPairs(l), showBinds(got), err)
			}
		}
	}
}
