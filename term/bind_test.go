package term_test

import (
	"testing"

	"hornbook/api"
	"hornbook/term"
)

// noSubstitutions: lists of binds whose To are terms, but which are not as P4 asks.
func noSubstitutions() [][]api.Bind {
	return [][]api.Bind{
		{b(-1, a("a"))}, {b(api.MaxVar+1, a("a"))}, {b(-1<<63, a("a")), b(0, a("a"))}, {b(0, a("a")), b(1<<63-1, a("a"))},
		{b(1, a("a")), b(1, a("a"))}, {b(1, a("a")), b(0, a("a"))}, {b(0, a("a")), b(2, a("a")), b(1, a("a"))}, {b(0, a("a")), b(1, a("a")), b(1, a("b"))},
	}
}

func TestApply(t *testing.T) {
	for _, x := range []struct {
		t    api.Term
		s    []api.Bind
		want api.Term
	}{
		{c("g", v(0), v(1)), nil, c("g", v(0), v(1))},
		{c("g", v(0), v(1)), []api.Bind{b(0, c("f", v(1)))}, c("g", c("f", v(1)), v(1))},
		{c("g", v(0), v(1)), []api.Bind{b(0, v(1)), b(1, v(0))}, c("g", v(1), v(0))},
		{v(0), []api.Bind{b(0, c("f", v(0)))}, c("f", v(0))},
		{v(0), []api.Bind{b(0, v(0))}, v(0)},
		{i(0), []api.Bind{b(0, a("a"))}, i(0)},
		{c("f", i(1), v(1), c("g", v(1))), []api.Bind{b(0, a("z")), b(1, a("a")), b(2, a("y"))}, c("f", i(1), a("a"), c("g", a("a")))},
		{v(api.MaxVar), []api.Bind{b(0, a("z")), b(api.MaxVar, a("a"))}, a("a")},
	} {
		if got, err := term.Apply(x.t, x.s); err != api.OK || !same(got, x.want) {
			t.Errorf("%s, %s: %s, %v", show(x.t), showBinds(x.s), show(got), err)
		}
	}
	for _, s := range substitutions() {
		for _, x := range pool() {
			if got, err := term.Apply(x, s); err != api.OK || !same(got, replaced(x, asMap(s))) {
				t.Fatalf("%s, %s: %s, %v", show(x), showBinds(s), show(got), err)
			}
		}
	}
}

func TestApplyRefuses(t *testing.T) {
	for _, s := range noSubstitutions() {
		if got, err := term.Apply(v(1), s); err != api.ErrArg || !isZero(got) {
			t.Errorf("%s: %s, %v", showBinds(s), show(got), err)
		}
		if _, err := term.Apply(a("a"), s); err != api.ErrArg {
			t.Errorf("%s of an atom: %v", showBinds(s), err)
		}
		for _, x := range nones() {
			if _, err := term.Apply(x, s); err != api.ErrTerm {
				t.Errorf("%s, %s: %v", show(x), showBinds(s), err)
			}
			if _, err := term.Apply(v(0), append(s[:len(s):len(s)], b(9, x))); err != api.ErrTerm {
				t.Errorf("%s with %s behind it: %v", showBinds(s), show(x), err)
			}
		}
	}
}

func TestCompose(t *testing.T) {
	for _, x := range []struct{ s, u, want []api.Bind }{
		{nil, nil, nil},
		{[]api.Bind{b(0, c("f", v(1)))}, []api.Bind{b(1, a("a"))}, []api.Bind{b(0, c("f", a("a"))), b(1, a("a"))}},
		{[]api.Bind{b(0, v(1))}, []api.Bind{b(1, v(0))}, []api.Bind{b(1, v(0))}},
		{[]api.Bind{b(0, v(0))}, nil, nil},
		{nil, []api.Bind{b(0, v(0)), b(1, a("a"))}, []api.Bind{b(1, a("a"))}},
		{[]api.Bind{b(0, v(0))}, []api.Bind{b(0, a("a"))}, []api.Bind{b(0, a("a"))}},
		{[]api.Bind{b(0, a("a"))}, []api.Bind{b(0, a("b"))}, []api.Bind{b(0, a("a"))}},
		{[]api.Bind{b(0, i(1))}, nil, []api.Bind{b(0, i(1))}},
		{[]api.Bind{b(1, i(1))}, nil, []api.Bind{b(1, i(1))}},
		{[]api.Bind{b(2, a("c")), b(5, v(3))}, []api.Bind{b(0, a("x")), b(3, a("y")), b(api.MaxVar, v(0))},
			[]api.Bind{b(0, a("x")), b(2, a("c")), b(3, a("y")), b(5, a("y")), b(api.MaxVar, v(0))}},
	} {
		if got, err := term.Compose(x.s, x.u); err != api.OK || !sameBinds(got, x.want) {
			t.Errorf("%s, %s: %s, %v", showBinds(x.s), showBinds(x.u), showBinds(got), err)
		}
	}
}

func TestComposeDoesBoth(t *testing.T) {
	terms := pool()
	for _, s := range substitutions() {
		for _, u := range substitutions() {
			both, err := term.Compose(s, u)
			if err != api.OK {
				t.Fatalf("%s, %s: %v", showBinds(s), showBinds(u), err)
			}
			for k, x := range both {
				if same(x.To, v(x.Var)) || k > 0 && both[k-1].Var >= x.Var {
					t.Fatalf("%s, %s: %s", showBinds(s), showBinds(u), showBinds(both))
				}
			}
			for _, x := range terms {
				want := replaced(replaced(x, asMap(s)), asMap(u))
				if got := replaced(x, asMap(both)); !same(got, want) {
					t.Fatalf("%s, %s: %s makes %s of %s", showBinds(s), showBinds(u), showBinds(both), show(got), show(x))
				}
			}
		}
	}
}

func TestComposeRefuses(t *testing.T) {
	good := []api.Bind{b(0, a("a"))}
	for _, s := range noSubstitutions() {
		for k, x := range [][2][]api.Bind{{s, good}, {good, s}, {s, nil}, {nil, s}, {s, s}} {
			if got, err := term.Compose(x[0], x[1]); err != api.ErrArg || len(got) != 0 {
				t.Errorf("%s, way %d: %s, %v", showBinds(s), k, showBinds(got), err)
			}
		}
		for _, x := range nones() {
			bad := []api.Bind{b(0, a("a")), b(1, x)}
			for k, y := range [][2][]api.Bind{{bad, good}, {good, bad}, {s, bad}, {bad, s}} {
				if got, err := term.Compose(y[0], y[1]); err != api.ErrTerm || len(got) != 0 {
					t.Errorf("%s, %s, way %d: %s, %v", showBinds(s), show(x), k, showBinds(got), err)
				}
			}
		}
	}
}

func TestMatch(t *testing.T) {
	for _, x := range []struct {
		p, t api.Term
		is   bool
		want []api.Bind
	}{
		{a("a"), a("a"), true, nil}, {a("a"), a("b"), false, nil}, {i(1), i(1), true, nil}, {i(1), i(2), false, nil}, {i(1), a("1"), false, nil},
		{a("a"), v(0), false, nil}, {v(0), v(0), true, []api.Bind{b(0, v(0))}}, {v(3), v(0), true, []api.Bind{b(3, v(0))}},
		{v(0), c("f", v(0)), true, []api.Bind{b(0, c("f", v(0)))}}, {c("f", v(0)), v(0), false, nil},
		{c("f", v(0), v(0)), c("f", v(0), v(0)), true, []api.Bind{b(0, v(0))}},
		{c("f", v(0), v(0)), c("f", a("a"), v(0)), false, nil}, {c("f", v(0), v(0)), c("f", v(0), a("a")), false, nil},
		{c("f", v(0), v(1)), c("f", v(1), v(0)), true, []api.Bind{b(0, v(1)), b(1, v(0))}},
		{c("f", v(9), a("b"), v(2)), c("f", c("g", v(2)), a("b"), v(9)), true, []api.Bind{b(2, v(9)), b(9, c("g", v(2)))}},
		{c("f", v(0), c("g", v(0))), c("f", c("h", v(1)), c("g", c("h", v(1)))), true, []api.Bind{b(0, c("h", v(1)))}},
		{c("f", v(0), c("g", v(0))), c("f", c("h", v(1)), c("g", c("h", v(2)))), false, nil},
		{c("f", v(0)), c("g", v(0)), false, nil}, {c("f", v(0)), c("f", v(0), v(0)), false, nil}, {c("f", v(0), v(0)), c("f", v(0)), false, nil},
		{c("f", v(api.MaxVar)), c("f", v(api.MaxVar)), true, []api.Bind{b(api.MaxVar, v(api.MaxVar))}},
	} {
		got, is, err := term.Match(x.p, x.t)
		if err != api.OK || is != x.is || !sameBinds(got, x.want) {
			t.Errorf("%s, %s: %s, %v, %v", show(x.p), show(x.t), showBinds(got), is, err)
		}
	}
}

// someMatches tries all parts of x for the variables of p: if any substitution makes x of p, one of these does.
func someMatches(p, x api.Term, vars []int64, become map[int64]api.Term) bool {
	if len(vars) == 0 {
		return same(replaced(p, become), x)
	}
	for _, part := range partsOf(x) {
		become[vars[0]] = part
		if someMatches(p, x, vars[1:], become) {
			return true
		}
	}
	return false
}

func TestMatchFindsWhatThereIs(t *testing.T) {
	for _, p := range pool() {
		for _, x := range pool() {
			s, is, err := term.Match(p, x)
			if err != api.OK || is != someMatches(p, x, varsOf(p), map[int64]api.Term{}) {
				t.Fatalf("%s, %s: %v, %v", show(p), show(x), is, err)
			}
			if !is && len(s) != 0 {
				t.Fatalf("%s, %s: false, and %s", show(p), show(x), showBinds(s))
			}
			if is && (len(s) != len(varsOf(p)) || !same(replaced(p, asMap(s)), x)) {
				t.Fatalf("%s, %s: %s", show(p), show(x), showBinds(s))
			}
		}
	}
}

func TestMatchRises(t *testing.T) {
	p, x := c("f"), c("f")
	for k := range int64(api.MaxArity) {
		p.Args = append(p.Args, v(k*17%101))
		x.Args = append(x.Args, i(k*17%101))
	}
	s, is, err := term.Match(p, x)
	if !is || err != api.OK || len(s) != api.MaxArity {
		t.Fatal(showBinds(s), is, err)
	}
	for k, y := range s {
		if !same(y.To, i(y.Var)) || k > 0 && s[k-1].Var >= y.Var {
			t.Fatal(showBinds(s))
		}
	}
}
