package magic_test

import (
	"strings"
	"testing"

	"hornbook/api"
	"hornbook/magic"
	"hornbook/model"
)

// told writes clauses as a text, as they would be read.
func told(t *testing.T, l []api.Clause) string {
	t.Helper()
	out := make([]string, len(l))
	for k, x := range l {
		whole := x.Head
		if !same(x.Body, a("true")) {
			whole = c(":-", x.Head, x.Body)
		}
		out[k] = printed(t, whole) + "."
	}
	return strings.Join(out, "\n")
}

// TestMagic: what is made of a program and a query, and nothing else.
func TestMagic(t *testing.T) {
	for _, x := range []struct{ name, program, query, want, asks string }{
		{"the document's example", "e(a,b). t(X,Y) :- e(X,Y).", "t(a,Z)",
			"'?t^bf'(a). e(a,b). 't^bf'(X,Y) :- '?t^bf'(X), e(X,Y).", "'t^bf'(a,Z)"},
		{"a goal of the same predicate", "e(a,b). t(X,Y) :- e(X,Y). t(X,Y) :- e(X,Z), t(Z,Y).", "t(a,Z)",
			"'?t^bf'(a). e(a,b). 't^bf'(X,Y) :- '?t^bf'(X), e(X,Y). '?t^bf'(Z) :- '?t^bf'(X), e(X,Z). 't^bf'(X,Y) :- '?t^bf'(X), e(X,Z), 't^bf'(Z,Y).", "'t^bf'(a,Z)"},
		{"a goal that comes first, of which nothing is known but what the head knows", "t(X,Y) :- t(X,Z), e(Z,Y). t(X,Y) :- e(X,Y). e(a,b).", "t(a,Z)",
			"'?t^bf'(a). e(a,b). '?t^bf'(X) :- '?t^bf'(X). 't^bf'(X,Y) :- '?t^bf'(X), 't^bf'(X,Z), e(Z,Y). 't^bf'(X,Y) :- '?t^bf'(X), e(X,Y).", "'t^bf'(a,Z)"},
		{"bound behind, not ahead", "t(X,Y) :- e(X,Y). t(X,Y) :- e(X,Z), t(Z,Y).", "t(Z,b)",
			"'?t^fb'(b). 't^fb'(X,Y) :- '?t^fb'(Y), e(X,Y). '?t^bb'(Z,Y) :- '?t^fb'(Y), e(X,Z). 't^fb'(X,Y) :- '?t^fb'(Y), e(X,Z), 't^bb'(Z,Y). " +
				"'t^bb'(X,Y) :- '?t^bb'(X,Y), e(X,Y). '?t^bb'(Z,Y) :- '?t^bb'(X,Y), e(X,Z). 't^bb'(X,Y) :- '?t^bb'(X,Y), e(X,Z), 't^bb'(Z,Y).", "'t^fb'(Z,b)"},
		{"nothing is bound", "t(X,Y) :- e(X,Y). t(X,Y) :- t(Y,X).", "t(X,Y)",
			"'?t^ff'. 't^ff'(X,Y) :- '?t^ff', e(X,Y). '?t^ff' :- '?t^ff'. 't^ff'(X,Y) :- '?t^ff', 't^ff'(Y,X).", "'t^ff'(X,Y)"},
		{"all is bound", "t(X,Y) :- e(X,Y). t(X,Y) :- t(Y,X).", "t(1,b)",
			"'?t^bb'(1,b). 't^bb'(X,Y) :- '?t^bb'(X,Y), e(X,Y). '?t^bb'(Y,X) :- '?t^bb'(X,Y). 't^bb'(X,Y) :- '?t^bb'(X,Y), 't^bb'(Y,X).", "'t^bb'(1,b)"},
		{"the same variable twice in the query is free twice", "t(X,Y) :- e(X,Y).", "t(X,X)",
			"'?t^ff'. 't^ff'(X,Y) :- '?t^ff', e(X,Y).", "'t^ff'(X,X)"},
		{"the same variable twice in a head is known by one of the two", "t(X,X) :- u(X). u(X) :- e(X).", "t(a,Y)",
			"'?t^bf'(a). '?u^b'(X) :- '?t^bf'(X). 't^bf'(X,X) :- '?t^bf'(X), 'u^b'(X). 'u^b'(X) :- '?u^b'(X), e(X).", "'t^bf'(a,Y)"},
		{"the same variable twice in a goal is free twice, and known from then on", "p :- t(X,X), t(X,Y). t(X,Y) :- e(X,Y).", "p",
			"'?p^'. '?t^ff' :- '?p^'. '?t^bf'(X) :- '?p^', 't^ff'(X,X). 'p^' :- '?p^', 't^ff'(X,X), 't^bf'(X,Y). 't^ff'(X,Y) :- '?t^ff', e(X,Y). 't^bf'(X,Y) :- '?t^bf'(X), e(X,Y).", "'p^'"},
		{"constants in goals are bound", "p(X) :- t(a,X), t(X,1), t(Y,2). t(X,Y) :- e(X,Y).", "p(X)",
			"'?p^f'. '?t^bf'(a) :- '?p^f'. '?t^bb'(X,1) :- '?p^f', 't^bf'(a,X). '?t^fb'(2) :- '?p^f', 't^bf'(a,X), 't^bb'(X,1). " +
				"'p^f'(X) :- '?p^f', 't^bf'(a,X), 't^bb'(X,1), 't^fb'(Y,2). " +
				"'t^bf'(X,Y) :- '?t^bf'(X), e(X,Y). 't^bb'(X,Y) :- '?t^bb'(X,Y), e(X,Y). 't^fb'(X,Y) :- '?t^fb'(Y), e(X,Y).", "'p^f'(X)"},
		{"constants in heads, bound and free", "t(a,X,b) :- e(X). t(X,Y,Y) :- e(X), e(Y).", "t(X,c,d)",
			"'?t^fbb'(c,d). 't^fbb'(a,X,b) :- '?t^fbb'(X,b), e(X). 't^fbb'(X,Y,Y) :- '?t^fbb'(Y,Y), e(X), e(Y).", "'t^fbb'(X,c,d)"},
		{"a free constant of a head makes nothing known", "t(X,a) :- u(X,Y), u(Y,a), u(Z,X). u(X,Y) :- e(X,Y).", "t(X,Y)",
			"'?t^ff'. '?u^ff' :- '?t^ff'. '?u^bb'(Y,a) :- '?t^ff', 'u^ff'(X,Y). '?u^fb'(X) :- '?t^ff', 'u^ff'(X,Y), 'u^bb'(Y,a). 't^ff'(X,a) :- '?t^ff', 'u^ff'(X,Y), 'u^bb'(Y,a), 'u^fb'(Z,X). " +
				"'u^ff'(X,Y) :- '?u^ff', e(X,Y). 'u^bb'(X,Y) :- '?u^bb'(X,Y), e(X,Y). 'u^fb'(X,Y) :- '?u^fb'(Y), e(X,Y).", "'t^ff'(X,Y)"},
		{"facts of a predicate that is derived have their head asked for, in their order among its rules", "t(a,b). e(1). t(X,X) :- e(X). t(c,d). t(a,b).", "t(a,Y)",
			"'?t^bf'(a). e(1). 't^bf'(a,b) :- '?t^bf'(a). 't^bf'(X,X) :- '?t^bf'(X), e(X). 't^bf'(c,d) :- '?t^bf'(c). 't^bf'(a,b) :- '?t^bf'(a).", "'t^bf'(a,Y)"},
		{"what is not derived stays as it is and where it is, also if nothing asks for it, and twice", "f(b). e(a). t(X) :- e(X). e(c). f(b). g. u(X) :- f(X). h(1,2).", "t(X)",
			"'?t^f'. f(b). e(a). e(c). f(b). g. h(1,2). 't^f'(X) :- '?t^f', e(X).", "'t^f'(X)"},
		{"what is derived and not asked for is gone", "u(X) :- t(X), e(X). t(X) :- e(X). w :- w. u(7). e(1).", "t(1)",
			"'?t^b'(1). e(1). 't^b'(X) :- '?t^b'(X), e(X).", "'t^b'(1)"},
		{"no Args", "p :- q, r. q :- p. r.", "p",
			"'?p^'. r. '?q^' :- '?p^'. 'p^' :- '?p^', 'q^', r. '?p^' :- '?q^'. 'q^' :- '?q^', 'p^'.", "'p^'"},
		{"another body than `true`, though without goals", "p(a) :- true, true. q(b). r(X) :- q(X), p(X).", "r(X)",
			"'?r^f'. q(b). '?p^b'(X) :- '?r^f', q(X). 'r^f'(X) :- '?r^f', q(X), 'p^b'(X). 'p^b'(a) :- '?p^b'(a).", "'r^f'(X)"},
		{"goals are joined to the right, without `true`", "p(X) :- ((e(X), true), q(X)), (true, e(Y), r(Y)). r(X) :- (e(X), e(X)), e(X). q(X) :- true, e(X).", "p(a)",
			"'?p^b'(a). '?q^b'(X) :- '?p^b'(X), (e(X)). '?r^b'(Y) :- '?p^b'(X), (e(X), ('q^b'(X), e(Y))). 'p^b'(X) :- '?p^b'(X), (e(X), ('q^b'(X), (e(Y), 'r^b'(Y)))). " +
				"'q^b'(X) :- '?q^b'(X), e(X). 'r^b'(X) :- '?r^b'(X), (e(X), (e(X), e(X))).", "'p^b'(a)"},
		{"modes as they come up, each once; not one behind the other", "p(X) :- q(X,Y), r(Y), q(Y,X). q(X,Y) :- r(X), s(X,Y). r(X) :- s(X,Y), q(Z,X). s(X,Y) :- e(X,Y).", "p(a)",
			"'?p^b'(a). " +
				"'?q^bf'(X) :- '?p^b'(X). '?r^b'(Y) :- '?p^b'(X), 'q^bf'(X,Y). '?q^bb'(Y,X) :- '?p^b'(X), 'q^bf'(X,Y), 'r^b'(Y). 'p^b'(X) :- '?p^b'(X), 'q^bf'(X,Y), 'r^b'(Y), 'q^bb'(Y,X). " +
				"'?r^b'(X) :- '?q^bf'(X). '?s^bf'(X) :- '?q^bf'(X), 'r^b'(X). 'q^bf'(X,Y) :- '?q^bf'(X), 'r^b'(X), 's^bf'(X,Y). " +
				"'?s^bf'(X) :- '?r^b'(X). '?q^fb'(X) :- '?r^b'(X), 's^bf'(X,Y). 'r^b'(X) :- '?r^b'(X), 's^bf'(X,Y), 'q^fb'(Z,X). " +
				"'?r^b'(X) :- '?q^bb'(X,Y). '?s^bb'(X,Y) :- '?q^bb'(X,Y), 'r^b'(X). 'q^bb'(X,Y) :- '?q^bb'(X,Y), 'r^b'(X), 's^bb'(X,Y). " +
				"'s^bf'(X,Y) :- '?s^bf'(X), e(X,Y). " +
				"'?r^f' :- '?q^fb'(Y). '?s^bb'(X,Y) :- '?q^fb'(Y), 'r^f'(X). 'q^fb'(X,Y) :- '?q^fb'(Y), 'r^f'(X), 's^bb'(X,Y). " +
				"'s^bb'(X,Y) :- '?s^bb'(X,Y), e(X,Y). " +
				"'?s^ff' :- '?r^f'. '?q^fb'(X) :- '?r^f', 's^ff'(X,Y). 'r^f'(X) :- '?r^f', 's^ff'(X,Y), 'q^fb'(Z,X). " +
				"'s^ff'(X,Y) :- '?s^ff', e(X,Y).", "'p^b'(a)"},
		{"a name with other Args is of another predicate", "p(X) :- p(X,Y), p. p(X,Y) :- p(Y,X,X). p(a,b,c). p.", "p(X)",
			"'?p^f'. p(a,b,c). p. '?p^ff' :- '?p^f'. 'p^f'(X) :- '?p^f', 'p^ff'(X,Y), p. 'p^ff'(X,Y) :- '?p^ff', p(Y,X,X).", "'p^f'(X)"},
		{"names of any bytes", "'\\n?'(X) :- ''(X), 'b?'(X,a), '='(X). ''(X) :- '''X'(X). 'b?'(X,Y) :- ','(X,Y,X).", "'\\n?'(' ')",
			"'?\\n?^b'(' '). '?^b'(X) :- '?\\n?^b'(X). '?b?^bb'(X,a) :- '?\\n?^b'(X), '^b'(X). '\\n?^b'(X) :- '?\\n?^b'(X), '^b'(X), 'b?^bb'(X,a), '='(X). " +
				"'^b'(X) :- '?^b'(X), '''X'(X). 'b?^bb'(X,Y) :- '?b?^bb'(X,Y), ','(X,Y,X).", "'\\n?^b'(' ')"},
		{"constants of any names and numbers", "t('^',X,'?a') :- e(X,'^','?'). t(X,Y,Z) :- t(-1,Y,'?'), e(X,Y,Z).", "t('a^b',X,0)",
			"'?t^bfb'('a^b',0). 't^bfb'('^',X,'?a') :- '?t^bfb'('^','?a'), e(X,'^','?'). '?t^bfb'(-1,'?') :- '?t^bfb'(X,Z). 't^bfb'(X,Y,Z) :- '?t^bfb'(X,Z), 't^bfb'(-1,Y,'?'), e(X,Y,Z).", "'t^bfb'('a^b',X,0)"},
		{"goals that no clause is of", "t(X) :- unheard(X), unheard, u(X). u(X) :- unheard(X).", "t(a)",
			"'?t^b'(a). '?u^b'(X) :- '?t^b'(X), unheard(X), unheard. 't^b'(X) :- '?t^b'(X), unheard(X), unheard, 'u^b'(X). 'u^b'(X) :- '?u^b'(X), unheard(X).", "'t^b'(a)"},
	} {
		l := clauses(t, x.program)
		got, query, err := magic.Magic(l, read(t, x.query))
		if want := told(t, clauses(t, x.want)); err != api.OK || told(t, got) != want || printed(t, query) != printed(t, read(t, x.asks)) {
			t.Errorf("%s: %v, %s of\n%s\nnot %s of\n%s", x.name, err, printed(t, query), told(t, got), x.asks, want)
		}
	}
}

// TestNotDerived: where nothing is to be made the clauses and the query stay as they are.
func TestNotDerived(t *testing.T) {
	program := "e(a,b). e(b,1). t(X,Y) :- (true, e(X,Y)), true. t(X,Y) :- (e(X,Z), true), t(Z,Y). u :- true, true. e(a,b)."
	for _, query := range []api.Term{read(t, "e(a,X)"), read(t, "e(X,X)"), c("e", v(7), v(3)), c("e", v(api.MaxVar), i(1)), a("e"), a("t"), c("t", v(0)), c("t", v(0), v(0), v(4)), c("unheard", v(2)), a("X"), c("u", a("a"))} {
		l := clauses(t, program)
		got, asks, err := magic.Magic(l, query)
		if err != api.OK || showClauses(got) != showClauses(l) || !same(asks, query) {
			t.Errorf("%s: %s, %v, of\n%s", show(query), show(asks), err, showClauses(got))
		}
		if got, asks, err := magic.Magic(nil, query); err != api.OK || len(got) != 0 || !same(asks, query) {
			t.Errorf("%s: %s, %v, of\n%s", show(query), show(asks), err, showClauses(got))
		}
	}
}

// TestNumbersOfVariables: the query keeps its own; clauses have theirs from 0 on.
func TestNumbersOfVariables(t *testing.T) {
	l := clauses(t, "t(X,Y,Z) :- e(Z,Y), u(Y,W), e(W,X). u(X,Y) :- e(Y,X).")
	got, asks, err := magic.Magic(l, c("t", v(9), a("a"), v(api.MaxVar)))
	want := []api.Clause{
		fact(c("?t^fbf", a("a"))),
		rule(c("?u^bf", v(0)), c(",", c("?t^fbf", v(0)), c("e", v(1), v(0)))),
		rule(c("t^fbf", v(0), v(1), v(2)), c(",", c("?t^fbf", v(1)), c(",", c("e", v(2), v(1)), c(",", c("u^bf", v(1), v(3)), c("e", v(3), v(0)))))),
		rule(c("u^bf", v(0), v(1)), c(",", c("?u^bf", v(0)), c("e", v(1), v(0)))),
	}
	if err != api.OK || showClauses(got) != showClauses(want) || !same(asks, c("t^fbf", v(9), a("a"), v(api.MaxVar))) {
		t.Errorf("%v, %s of\n%s", err, show(asks), showClauses(got))
	}
}

// TestAsks: the new query has the same facts, but for the name, and the new model has little more than what it leans on.
func TestAsks(t *testing.T) {
	const program = "e(1,2). e(2,3). e(3,1). e(4,5). e(5,6). e(6,4). e(7,8). t(X,Y) :- e(X,Y). t(X,Y) :- e(X,Z), t(Z,Y). both(X) :- t(1,X), t(X,1). same(X,Y) :- t(X,Y), t(Y,X). far(X) :- t(X,8), r. r :- t(1,1)."
	for query, want := range map[string]struct {
		facts string
		most  int // how many facts the new model has beside those of e
	}{
		"t(4,X)":    {"t(4,4) t(4,5) t(4,6)", 12},
		"t(X,8)":    {"t(7,8)", 40},
		"t(1,3)":    {"t(1,3)", 6},
		"t(1,4)":    {"", 3},
		"t(X,X)":    {"t(1,1) t(2,2) t(3,3) t(4,4) t(5,5) t(6,6)", 100},
		"both(X)":   {"both(1) both(2) both(3)", 40},
		"both(4)":   {"", 20},
		"same(X,5)": {"same(4,5) same(5,5) same(6,5)", 100},
		"far(7)":    {"far(7)", 20},
		"far(6)":    {"", 20},
		"r":         {"r", 12},
		"e(1,X)":    {"e(1,2)", 100},
		"none(X)":   {"", 100},
	} {
		l, asks, err := magic.Magic(clauses(t, program), read(t, query))
		if err != api.OK {
			t.Fatal(query, err)
		}
		facts, err := model.Ask(l, asks)
		for k := range facts {
			facts[k].Name, _, _ = strings.Cut(facts[k].Name, "^")
		}
		if got := strings.ReplaceAll(printedTerms(t, facts), "; ", " "); err != api.OK || got != want.facts {
			t.Errorf("%s: %s, %v", query, got, err)
		}
		if all, err := model.Model(l); err != api.OK || len(all)-7 > want.most {
			t.Errorf("%s: %d facts, %v:\n%s", query, len(all)-7, err, printedTerms(t, all))
		}
	}
}
