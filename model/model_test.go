package model_test

import (
	"slices"
	"strings"
	"testing"

	"hornbook/api"
	"hornbook/model"
	"hornbook/term"
)

func TestLevels(t *testing.T) {
	for program, want := range map[string]string{
		"": "",
		"e(a,b). v(X) :- e(X,Y). w(X) :- v(X), \\+ e(X,a).": "v/1 0; w/1 1; e/2 0",
		"a.":                                  "a/0 0",
		"a :- b.":                             "a/0 0; b/0 0",
		"a :- \\+ b.":                         "a/0 1; b/0 0",
		"a :- \\+ b. b :- \\+ c. c :- \\+ d.": "a/0 3; b/0 2; c/0 1; d/0 0",
		"c :- \\+ d. b :- \\+ c. a :- \\+ b.": "a/0 3; b/0 2; c/0 1; d/0 0",
		"a :- b. b :- a.":                     "a/0 0; b/0 0",
		"a :- b. b :- a. b :- \\+ c.":         "a/0 1; b/0 1; c/0 0",
		"a :- b, \\+ c. c :- d. d :- c, \\+ e. b :- a.": "a/0 2; b/0 2; c/0 1; d/0 1; e/0 0",
		"a :- a.": "a/0 0",
		// A name with other Args is of another predicate.
		"p :- \\+ p(a). p(X) :- q(X), \\+ p(X,X). p(X,Y) :- q(X), q(Y).": "p/0 2; p/1 1; q/1 0; p/2 0",
		// The greater of two ways counts, whichever comes first.
		"a :- \\+ b, c. c :- \\+ d. d :- \\+ b.":         "a/0 2; b/0 0; c/0 2; d/0 1",
		"a :- c, \\+ b. d :- \\+ b. c :- \\+ d. a :- b.": "a/0 2; b/0 0; c/0 2; d/0 1",
		"a :- \\+ b, \\+ b. a :- b.":                     "a/0 1; b/0 0",
		"a :- true, (\\+ b, true), c.":                   "a/0 1; b/0 0; c/0 0",
		// By the bytes of names, not as letters are told.
		"b :- 'B', z, '', aa, a, '0', ab.": "/0 0; 0/0 0; B/0 0; a/0 0; aa/0 0; ab/0 0; b/0 0; z/0 0",
		"z(X) :- y(X,X), \\+ a(X,X). x.":   "x/0 0; z/1 1; a/2 0; y/2 0",
		"win(X) :- move(X,Y), \\+ lost(Y). lost(X) :- pos(X). pos(X) :- move(X,Y). pos(Y) :- move(X,Y).": "lost/1 0; pos/1 0; win/1 1; move/2 0",
	} {
		got, err := model.Levels(clauses(t, program))
		if err != api.OK || showLevels(got) != want {
			t.Errorf("%s: %s, %v", program, showLevels(got), err)
		}
	}
}

// unlevelled are programs without levels.
const unlevelled = "p :- \\+ p.|p :- \\+ q. q :- \\+ p.|p :- \\+ q. q :- p.|p :- q. q :- r. r :- s. s :- \\+ p.|a. b :- a. p(X) :- q(X), \\+ p(X). q(a).|" +
	"win(X) :- move(X,Y), \\+ win(Y).|p :- p, \\+ p.|p :- q, \\+ r. r :- q. q :- p.|p(X,Y) :- q(X,Y), \\+ r(Y,X). r(X,Y) :- q(X,Y), s(X). s(X) :- p(X,X)."

// TestNamesOfLevels: any bytes.
func TestNamesOfLevels(t *testing.T) {
	long := strings.Repeat("x", api.MaxName)
	l := []api.Clause{made(t, a("\xff"), not(a("é")), a(long), a("\x00\x01"), a("\x00"), c("\x00", i(1)), c("", a("")), not(a("")), a("Z"))}
	got, err := model.Levels(l)
	if want := "/0 0; \x00/0 0; \x00\x01/0 0; Z/0 0; " + long + "/0 0; é/0 0; \xff/0 1; /1 0; \x00/1 0"; err != api.OK || showLevels(got) != want {
		t.Errorf("%q, %v", showLevels(got), err)
	}
}

func TestNoLevels(t *testing.T) {
	for _, program := range strings.Split(unlevelled, "|") {
		l := clauses(t, program)
		if got, err := model.Levels(l); err != api.ErrLevel || got != nil {
			t.Errorf("%s: %s, %v", program, showLevels(got), err)
		}
		if got, err := model.Model(l); err != api.ErrLevel || got != nil {
			t.Errorf("%s: %s, %v", program, showTerms(got), err)
		}
		for _, query := range []string{"p", "q(X)", "a", "unheard(X,Y,X)"} {
			if got, err := model.Ask(l, read(t, query)); err != api.ErrLevel || got != nil {
				t.Errorf("%s, %s: %s, %v", program, query, showTerms(got), err)
			}
		}
	}
}

func TestModel(t *testing.T) {
	for program, want := range map[string]string{
		"": "",
		"e(a,b). v(X) :- e(X,Y). w(X) :- v(X), \\+ e(X,a).": "v(a); w(a); e(a,b)",
		"a. b :- a. c :- b, d. a :- c.":                     "a; b",
		"a :- b. b :- a.":                                   "",
		"a :- \\+ b.":                                       "a",
		"a :- \\+ b. b.":                                    "b",
		"a :- \\+ b. b :- \\+ c. c :- \\+ d.":               "a; c",
		"a :- \\+ b. b :- c. c :- b.":                       "a",
		"t(X,Y) :- e(X,Y). t(X,Y) :- e(X,Z), t(Z,Y). e(1,2). e(2,3). e(3,1).": "e(1,2); e(2,3); e(3,1); t(1,1); t(1,2); t(1,3); t(2,1); t(2,2); t(2,3); t(3,1); t(3,2); t(3,3)",
		// The order of terms: atoms, then by Args, then by the names, then by the Args; integers ahead of atoms, and by their numbers.
		"p(b). p(a). p(10). p(9). p(-1). p(aa). p(''). p('B'). q(a). o(z). z. y. a(a,a). a(3,z). p(a).": "y; z; o(z); p(-1); p(9); p(10); p(''); p('B'); p(a); p(aa); p(b); q(a); a(3,z); a(a,a)",
		"p(1). p('1'). p('-1'). p(-1). q(X) :- p(X).":                                                   "p(-1); p(1); p('-1'); p('1'); q(-1); q(1); q('-1'); q('1')",
		// The same variable twice, in heads, in goals, in both.
		"e(a,a). e(a,b). e(b,b). p(X) :- e(X,X). q(X,X) :- e(X,b). r(X,Y,X) :- e(X,Y).":                     "p(a); p(b); e(a,a); e(a,b); e(b,b); q(a,a); q(b,b); r(a,a,a); r(a,b,a); r(b,b,b)",
		"s(a,b,a). s(a,a,b). s(b,b,b). s(b,a,a). p(X,Y) :- s(X,Y,X). q(X) :- s(X,X,X). r(X,Y) :- s(X,Y,Y).": "q(b); p(a,b); p(b,b); r(b,a); r(b,b); s(a,a,b); s(a,b,a); s(b,a,a); s(b,b,b)",
		// Constants in heads and goals.
		"e(a,b). e(b,c). p(k,X) :- e(a,X). p(k,X) :- e(X,c), e(a,b). q :- e(b,c). r :- e(c,X). s(7) :- q.": "q; s(7); e(a,b); e(b,c); p(k,b)",
		"t(a,X) :- e(X). t(X,b) :- t(a,X). e(b). e(c). u(X) :- t(X,b), t(a,X).":                            "e(b); e(c); u(b); u(c); t(a,b); t(a,c); t(b,b); t(c,b)",
		// Goals of predicates without clauses, with and without \+.
		"p(X) :- e(X), \\+ unheard(X). q(X) :- e(X), unheard(X). r :- \\+ unheard. e(1).": "r; e(1); p(1)",
		// Duplicates of clauses and goals, and bodies with `true` in them.
		"p(X) :- e(X), e(X), true, (e(X), e(X)). e(1). e(1). p(X) :- e(X), e(X), true, (e(X), e(X)).": "e(1); p(1)",
		"a :- true, true. b :- (true, a), true.":                                                      "a; b",
		// Goals that share no variables with the head, and with no other.
		"p(X) :- e(X), f(Y), g(Z,Z). e(1). e(2). f(3). f(4). g(1,1). q(X) :- e(X), f(Y), g(Z,1), h. r(X) :- e(X), \\+ h, f(Y).": "e(1); e(2); f(3); f(4); p(1); p(2); r(1); r(2); g(1,1)",
		"p(X,Y) :- e(X), f(Y). e(1). e(2). f(3). f(4).":                                                       "e(1); e(2); f(3); f(4); p(1,3); p(1,4); p(2,3); p(2,4)",
		"p :- e(X), f(Y), \\+ g(X,Y). e(1). e(2). f(3). g(1,3). q :- e(X), f(Y), \\+ h(X,Y). h(1,3). h(2,3).": "p; e(1); e(2); f(3); g(1,3); h(1,3); h(2,3)",
		// \+ ahead of the goals that have its variables.
		"p(X) :- \\+ q(X), e(X). q(1). e(1). e(2).":                                "e(1); e(2); p(2); q(1)",
		"p(X,Y) :- \\+ q(X,Y), \\+ q(Y,X), e(X), \\+ r, e(Y). q(1,2). e(1). e(2).": "e(1); e(2); p(1,1); p(2,2); q(1,2)",
		// Predicates that lean on one another.
		"even(0). even(Y) :- s(X,Y), odd(X). odd(Y) :- s(X,Y), even(X). s(0,1). s(1,2). s(2,3).": "even(0); even(2); odd(1); odd(3); s(0,1); s(1,2); s(2,3)",
		// Three that are of one name with other Args.
		"p. p(1) :- p. p(1,1) :- p(1), \\+ p(2).": "p; p(1); p(1,1)",
		// More than once through the same predicate in one rule.
		"t(X,Y) :- t(X,Z), t(Z,Y). t(1,2). t(2,3). t(3,4).":                         "t(1,2); t(1,3); t(1,4); t(2,3); t(2,4); t(3,4)",
		"t(X,Y) :- t(X,Z), t(Z,W), t(W,Y). t(1,2). t(2,3). t(3,4). t(4,5). t(5,6).": "t(1,2); t(1,4); t(1,6); t(2,3); t(2,5); t(3,4); t(3,6); t(4,5); t(5,6)",
		// What is reached, what is not, and what goes on from that.
		"r(a). r(Y) :- r(X), e(X,Y). e(a,b). e(b,a). e(c,d). n(X) :- e(X,Y). n(Y) :- e(X,Y). u(X) :- n(X), \\+ r(X). m :- \\+ u(a), u(c). k(X,Y) :- e(X,Y), u(Y), \\+ r(X), m.": "m; n(a); n(b); n(c); n(d); r(a); r(b); u(c); u(d); e(a,b); e(b,a); e(c,d); k(c,d)",
	} {
		got, err := model.Model(clauses(t, program))
		if err != api.OK || printedTerms(t, got) != want {
			t.Errorf("%s: %s, not %s, %v", program, printedTerms(t, got), want, err)
		}
	}
}

// TestNamesOfFacts: any bytes, any integers, any Args.
func TestNamesOfFacts(t *testing.T) {
	long := strings.Repeat("x", api.MaxName)
	constants := []api.Term{i(least), i(-1), i(0), i(1), i(256), i(1 << 40), i(greatest), a(""), a("\x00"), a("\x00\x00"), a("\x00\xff"), a("\x01"), a(","), a("X"), a("a"), a("true"), a(long), a("é"), a("\xff")}
	var l []api.Clause
	var want []api.Term
	for _, name := range []string{"", "\x00", "\xff", long, "a"} {
		l = append(l, fact(a(name)), made(t, c(name, v(0)), c("all", v(0))), made(t, c(name, v(0), v(0)), c(name, v(0)), a(name)))
		want = append(want, a(name))
		for _, x := range constants {
			want = append(want, c(name, x), c(name, x, x))
		}
	}
	for _, x := range slices.Backward(constants) {
		l = append(l, fact(c("all", x)))
		want = append(want, c("all", x))
	}
	slices.SortFunc(want, func(x, y api.Term) int {
		order, _ := term.Compare(x, y)
		return order
	})
	got, err := model.Model(l)
	if err != api.OK || showTerms(got) != showTerms(want) {
		t.Errorf("%s, not %s, %v", showTerms(got), showTerms(want), err)
	}
	for _, x := range constants {
		if got, err := model.Ask(l, c("\xff", v(3), x)); err != api.OK || showTerms(got) != showTerms([]api.Term{c("\xff", x, x)}) {
			t.Error(show(x), showTerms(got), err)
		}
	}
}

func TestAsk(t *testing.T) {
	const program = "e(1,2). e(2,3). e(3,3). e(a,b). t(X,Y) :- e(X,Y). t(X,Y) :- e(X,Z), t(Z,Y). u(X) :- e(X,Y), \\+ t(Y,Y). yes :- u(a). no :- \\+ yes. t(X,Y,1) :- t(X,Y). s(1,1,1). s(1,2,1). s(2,2,1)."
	l := clauses(t, program)
	for query, want := range map[string]string{
		"e(X,Y)": "e(1,2); e(2,3); e(3,3); e(a,b)", "e(1,X)": "e(1,2)", "e(X,3)": "e(2,3); e(3,3)", "e(X,X)": "e(3,3)", "e(1,2)": "e(1,2)", "e(2,1)": "", "e(1,3)": "",
		"t(1,X)": "t(1,2); t(1,3)", "t(X,b)": "t(a,b)", "t(X,X)": "t(3,3)", "t(X)": "", "t": "", "t(X,Y,Z)": "t(1,2,1); t(1,3,1); t(2,3,1); t(3,3,1); t(a,b,1)", "t(X,Y,X)": "t(1,2,1); t(1,3,1)", "t(X,Y,Y)": "",
		"u(X)": "u(1); u(a)", "u(1)": "u(1)", "u(2)": "", "u(new)": "", "yes": "yes", "no": "", "yes(X)": "", "unheard": "", "unheard(X,Y)": "", "e": "", "e(X,Y,Z)": "",
		"s(X,Y,X)": "s(1,1,1); s(1,2,1)", "s(X,X,Y)": "s(1,1,1); s(2,2,1)", "s(X,X,X)": "s(1,1,1)", "s(X,2,Y)": "s(1,2,1); s(2,2,1)", "s(X,2,X)": "s(1,2,1)",
	} {
		got, err := model.Ask(l, read(t, query))
		if err != api.OK || printedTerms(t, got) != want {
			t.Errorf("%s: %s, not %s, %v", query, printedTerms(t, got), want, err)
		}
	}
	// Its variables may have any numbers, and those of clauses are others.
	for _, query := range []api.Term{c("e", v(7), v(0)), c("e", v(api.MaxVar), v(3)), c("e", v(1), v(0))} {
		if got, err := model.Ask(l, query); err != api.OK || len(got) != 4 {
			t.Error(show(query), showTerms(got), err)
		}
	}
	if got, err := model.Ask(l, c("e", v(api.MaxVar), v(api.MaxVar))); err != api.OK || printedTerms(t, got) != "e(3,3)" {
		t.Error(showTerms(got), err)
	}
	if got, err := model.Ask(nil, a("a")); err != api.OK || len(got) != 0 {
		t.Error(showTerms(got), err)
	}
}
