package ground_test

import (
	"strings"
	"testing"

	"hornbook/api"
	"hornbook/ground"
)

// shapes of clauses, which must have some.
func shapes(t *testing.T, l []api.Clause) []api.Shape {
	t.Helper()
	got, err := ground.Analyse(l)
	if err != api.OK {
		t.Fatalf("%v of\n%s", err, showClauses(l))
	}
	return got
}

const (
	app = "app([],X,X). app([X|Y],Z,[X|W]) :- app(Y,Z,W). "
	// One Arg that may be either, one that is ground, and one that is not known to be.
	parts = "any(X). const(a). none(X) :- none(X). "
)

// TestAnalyse: the rows of the predicates of a program, and nothing else.
func TestAnalyse(t *testing.T) {
	for _, x := range []struct{ name, program, want string }{
		{"the document's example", app, "app/3: 0 1 2 7"},
		{"no clauses", "", ""},
		{"no Args: there is one row, in which nothing is said", "p.", "p/0: 0"},
		{"an atom", "p(a).", "p/1: 1"},
		{"an integer", "p(-1).", "p/1: 1"},
		{"a compound without variables", "p(f(g(a),1)).", "p/1: 1"},
		{"a variable is ground or not", "p(X).", "p/1: 0 1"},
		{"a compound is ground if all its variables are", "p(f(X,g(a,Y))).", "p/1: 0 1"},
		{"the bit of worth 2^i is the Arg i's", "p(a,X,Y) :- any(X), const(Y). q(X,Y,a) :- const(Y), none(X). r(f(X),a,Y) :- const(X), any(Y). " + parts,
			"any/1: 0 1; const/1: 1; none/1:; p/3: 5 7; q/3:; r/3: 3 7"},
		{"one variable in two Args is ground in both", "p(X,X).", "p/2: 0 3"},
		{"one Arg has all variables of another", "p(X,f(X,Y)).", "p/2: 0 1 3"},
		{"each of two Args has a variable of its own", "p(f(X,Y),f(Y,Z)).", "p/2: 0 1 2 3"},
		{"two Args are ground together, or neither is", "p(f(X,Y),g(Y,X,X)).", "p/2: 0 3"},
		{"three Args, each two of which have a variable", "p(f(X,Y),f(Y,Z),f(Z,X)).", "p/3: 0 1 2 4 7"},
		{"a goal says what is ground", "p(X,Y) :- const(X). " + parts, "any/1: 0 1; const/1: 1; none/1:; p/2: 1 3"},
		{"a goal says nothing of it", "p(X,Y) :- any(X). " + parts, "any/1: 0 1; const/1: 1; none/1:; p/2: 0 1 2 3"},
		{"a goal whose predicate has no rows", "p(X,a) :- none(X). q :- none(a). " + parts, "q/0:; any/1: 0 1; const/1: 1; none/1:; p/2:"},
		{"a goal whose predicate has no clause", "p(X) :- q(X).", "p/1:; q/1:"},
		{"a goal whose predicate has clauses, but with other numbers of Args", "p :- q(a). q. q(a,b).", "p/0:; q/0: 0; q/1:; q/2: 3"},
		{"a goal with a constant where no row has a bit", "free(X) :- f(X,Y), g(Y). f(X,f(X,Y)). g(X) :- h(X). p :- h(a).", "p/0:; free/1:; g/1:; h/1:; f/2: 0 1 3"},
		{"the row of a goal must be there as a whole", "same(X,X). p(X) :- same(X,a). q(X) :- same(f(X,Y),Y). r(X,Y) :- same(X,Y), const(X). " + parts,
			"any/1: 0 1; const/1: 1; none/1:; p/1: 1; q/1: 0 1; r/2: 3; same/2: 0 3"},
		{"a compound in a goal is ground only with all its variables", "p(X,Y) :- const(f(X,Y)). q(X,Y) :- open(f(X,Y)). open(X) :- pair(X,a). pair(X,f(X,X)). " + parts,
			"any/1: 0 1; const/1: 1; none/1:; open/1: 1; p/2: 3; pair/2: 0 3; q/2: 3"},
		{"what no goal and not the head has can be either", "p(X) :- const(X), any(f(X,Y)). " + parts, "any/1: 0 1; const/1: 1; none/1:; p/1: 1"},
		{"a variable of two goals", "p(X) :- q(X,Y), const(Y). q(f(X,Y),X). " + parts, "any/1: 0 1; const/1: 1; none/1:; p/1: 0 1; q/2: 0 2 3"},
		{"a goal twice", "p(X) :- const(X), const(X), any(X). " + parts, "any/1: 0 1; const/1: 1; none/1:; p/1: 1"},
		{"clauses each have rows of their own", "p(X,a) :- const(X). p(a,X). p(X,X). p(X,Y) :- none(X). " + parts, "any/1: 0 1; const/1: 1; none/1:; p/2: 0 1 3"},
		{"the same clause twice", "p(a). p(a). q(X). q(Y).", "p/1: 1; q/1: 0 1"},
		{"nothing but itself says it", "p(X) :- p(X). q :- r. r :- q.", "q/0:; r/0:; p/1:"},
		{"rows come round", "p(a,X,Y). p(X,Y,Z) :- p(Z,X,Y).", "p/3: 1 2 3 4 5 6 7"},
		{"rows of one predicate by way of another", "even(0). even(s(X)) :- odd(X). odd(s(X)) :- even(X).", "even/1: 1; odd/1: 1"},
		{"rows that the first round does not find", "p(X) :- q(X). q(X) :- r(X). r(X) :- s(X). s(X).", "p/1: 0 1; q/1: 0 1; r/1: 0 1; s/1: 0 1"},
		{"lists turned about", app + "rev([],[]). rev([X|Y],Z) :- rev(Y,W), app(W,[X],Z).", "rev/2: 0 3; app/3: 0 1 2 7"},
		{"lists with what is told of them", "len([],0). len([X|Y],s(Z)) :- len(Y,Z). in(X,[X|Y]). in(X,[Y|Z]) :- in(X,Z).", "in/2: 0 1 3; len/2: 2 3"},
		{"goals joined in other ways, and true", "p(X,Y,Z) :- ((const(X), any(Y)), true), (true, const(Z)). q :- true, true. " + parts, "q/0: 0; any/1: 0 1; const/1: 1; none/1:; p/3: 5 7"},
		{"names that are reserved with other numbers of Args", "true(X) :- call, ','(X,a,b), is(X). call. ','(X,Y,Z) :- catch(X,Y). is(a).",
			"call/0: 0; is/1: 1; true/1:; catch/2:; ,/3:"},
		{"by the number of Args, then by the bytes of names", "z. b(a). 'B'(a). ''(a,b). ab(1). a(1). y(1,2,3). 'a b'(1). ba(1,2) :- a(1,2).",
			"z/0: 0; B/1: 1; a/1: 1; a b/1: 1; ab/1: 1; b/1: 1; /2: 3; a/2:; ba/2:; y/3: 7"},
	} {
		if got := showShapes(shapes(t, clauses(t, x.program))); got != x.want {
			t.Errorf("%s: %s\nnot %s", x.name, got, x.want)
		}
	}
}

// TestNamesByBytes: not by what the bytes are read as, and no two are one.
func TestNamesByBytes(t *testing.T) {
	names := []string{"", "\x00", "\x00a", "A", "a", "a\x00", "aa", "b", "~", "\x7f", "\x80", "é", "\xe9", "\xff", strings.Repeat("\xff", api.MaxName)}
	x := chance(8)
	for args := range 9 {
		var l []api.Clause
		for _, at := range x.order(len(names)) {
			l = append(l, fact(of(names[at], args)))
		}
		got := shapes(t, l)
		if len(got) != len(names) {
			t.Fatal(showShapes(got))
		}
		for k, shape := range got {
			if shape.Name != names[k] || shape.N != args || len(shape.Rows) != 1 || shape.Rows[0] != 1<<args-1 {
				t.Errorf("%q %d: %q %d %v", names[k], args, shape.Name, shape.N, shape.Rows)
			}
		}
	}
}

// TestOrderSaysNothing: neither that of the clauses nor that of the goals.
func TestOrderSaysNothing(t *testing.T) {
	x := chance(7)
	l := clauses(t, app+parts+"rev([],[]). rev([X|Y],Z) :- rev(Y,W), app(W,[X],Z). p(X,Y) :- app(X,Y,Z), const(Z). p(X,Y) :- any(X), rev(X,Y), none(Y). q(X) :- p(X,Y), rev(Y,Z).")
	want := showShapes(shapes(t, l))
	for range 50 {
		var turned []api.Clause
		for _, at := range x.order(len(l)) {
			goals := naiveGoals(l[at].Body)
			var own []api.Term
			for _, k := range x.order(len(goals)) {
				own = append(own, goals[k])
			}
			turned = append(turned, made(t, l[at].Head, own...))
		}
		if got := showShapes(shapes(t, turned)); got != want {
			t.Fatalf("%s, not %s, of\n%s", got, want, showClauses(turned))
		}
	}
}

// TestSizes: as many Args and variables as there may be, with all their rows.
func TestSizes(t *testing.T) {
	eight, ten := vars(8), vars(10)
	all := shapes(t, []api.Clause{fact(c("p", eight...))})
	if len(all) != 1 || all[0].Name != "p" || all[0].N != 8 || len(all[0].Rows) != 256 {
		t.Fatal(showShapes(all))
	}
	for k, row := range all[0].Rows {
		if row != k {
			t.Fatal(showShapes(all))
		}
	}
	for k := range 8 {
		// An Arg that is ground, and all others either.
		own := vars(8)
		own[k] = a("a")
		got := shapes(t, []api.Clause{made(t, c("p", own...))})
		if len(got[0].Rows) != 128 || got[0].Rows[0] != 1<<k || got[0].Rows[127] != 255 {
			t.Error(k, showShapes(got))
		}
	}
	for _, x := range []struct {
		l    []api.Clause
		want string
	}{
		{[]api.Clause{fact(of("p", 8))}, "p/8: 255"},
		{[]api.Clause{fact(c("p", c("f", ten...)))}, "p/1: 0 1"},
		{[]api.Clause{fact(c("p", c("f", ten...))), made(t, c("q", ten[9]), c("p", c("f", ten...)))}, "p/1: 0 1; q/1: 0 1"},
		{[]api.Clause{made(t, c("q", ten[0], ten[9]), c("const", ten[0]), c("const", c("f", ten...))), fact(c("const", a("a")))}, "const/1: 1; q/2: 3"},
		{[]api.Clause{made(t, c("q", ten[9], ten[8]), c("p", ten[:8]...), c("p", ten[2:]...)), fact(c("p", a("a"), v(0), a("a"), a("a"), a("a"), a("a"), v(1), v(0)))},
			// The fourth variable is ground by the first goal, so the last one is by the second.
			"q/2: 1 3; p/8: 61 125 191 255"},
		{[]api.Clause{made(t, c("p", ten[:8]...), c("const", c("f", ten[1:]...))), fact(c("const", a("a")))}, "const/1: 1; p/8: 254 255"},
		{[]api.Clause{fact(c("p", c("f", c("g", c("f", ten[:5]...), v(4)), c("g", ten[5:]...)), ten[9]))}, "p/2: 0 2 3"},
	} {
		if got := showShapes(shapes(t, x.l)); got != x.want {
			t.Errorf("%s, not %s, of\n%s", got, x.want, showClauses(x.l))
		}
	}
}
