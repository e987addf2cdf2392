package compile_test

import (
	"testing"

	"hornbook/api"
	"hornbook/compile"
)

const library = `
app([],X,X). app([X|Y],Z,[X|W]) :- app(Y,Z,W).
rev([],[]). rev([X|Y],Z) :- rev(Y,W), app(W,[X],Z).
has(X,[X|_]). has(X,[_|Y]) :- has(X,Y).
first(X,Y) :- has(X,Y), !.
perm([],[]). perm(X,[Y|Z]) :- app(U,[Y|V],X), app(U,V,W), perm(W,Z).
size([],0). size([_|X],N) :- size(X,M), N is M + 1.
big(X,Y) :- X > Y, !, print(big). big(_,_) :- print(small), nl.
other(X,Y) :- X = Y, !, fail. other(_,_).
color(red). color(green). color(blue).
map([A,B,C,D]) :- color(A), color(B), A \= B, color(C), \+ (A = C ; B = C), color(D), \+ has(D,[A,B]).
bad(X) :- print(f(X,Y,Y)), throw(f(Y,X)).
odd(f(X,g(X,[Y])),Y,X). odd(X,X,f(X)). odd(f(f(X)),f(X),X).
p(1). p(2). p(3).
c(X) :- p(X), !. c(9).
d(X) :- (p(X), X > 1 -> true ; X = 0).
e(X,X). e(f(X),g(X,X)).
sum(N,S) :- (N > 0 -> M is N - 1, sum(M,R), S is R + N ; S = 0).
kind(X,K) :- (var(X) -> K = var ; integer(X) -> K = int ; atom(X) -> K = atom ; K = comp).
one(X) :- ((X = 1 ; X = 2) -> true).
in(X) :- ((p(X), ! ; X = 7) -> true ; X = 8).
out(X) :- p(X), (X > 1, ! ; X = 5 ; true).
then(X) :- p(X), (X > 1 -> ! ; true).
else(X) :- p(X), (X > 2 -> true ; !).
not(X) :- \+ (p(Y), !, Y = X), print(not). not(X) :- print(yes(X)).
late(X,Y) :- (X = a ; Y = b), print(X + Y), (Y = c ; true).
never :- fail, nope. never :- (fail ; fail), nope.
branch(X,Y,Z) :- (X = 1, Y = f(W) ; X = 2, Z = g(W) ; true), (Y = f(V) -> true ; \+ Z = g(V)), Z = h(W).
loop :- loop. loops(X) :- loops(f(X)).
a. 'a b'(X) :- print(X). [] :- a. ','(X,Y,Z) :- print([X,Y,Z]). call(A,B,C,D,E,F,G,H,I) :- print(I). true(X) :- p(X). !(X) :- p(X), !.
`

// TestExamples: what programs and queries tell, one outcome behind the other.
func TestExamples(t *testing.T) {
	l := program(t, library)
	for _, x := range [][2]string{
		{"app(X,Y,[a])", "app([],[a],[a]); app([a],[],[a]); none"},
		{"c(X)", "c(1); none"}, {"c(9)", "c(9); none"}, {"c(2)", "c(2); none"}, {"c(8)", "none"},
		{"d(X)", "d(2); none"}, {"d(1)", "none"}, {"d(0)", "d(0); none"},
		{"e(f(1),Y)", "e(f(1),f(1)); e(f(1),g(1,1)); none"}, {"e(X,g(Y,2))", "e(g(_0,2),g(_0,2)); e(f(2),g(2,2)); none"}, {"e(X,f(X))", "none"}, {"e(f(X),g(Y,f(X)))", "none"},
		{"true", "true; none"}, {"fail", "none"}, {"!", "!; none"}, {"a", "a; none"}, {"[]", "[]; none"}, {"nope", "ball unknown(nope / 0)"}, {"nope(X,a)", "ball unknown(nope / 2)"}, {"p", "ball unknown(p / 0)"},
		{"throw(f(X,Y,X))", "ball f(_0,_1,_0)"}, {"throw(X)", "ball unbound"}, {"X is a", "ball not_evaluable(a / 0)"}, {"p(X), print(X), X > 1, throw(X)", "<12>ball 2"},
		{"sum(4,S)", "sum(4,10); none"}, {"sum(0,S)", "sum(0,0); none"}, {"sum(a,S)", "ball not_evaluable(a / 0)"},
		{"kind(X,K)", "kind(_0,var); none"}, {"kind(1,K)", "kind(1,int); none"}, {"kind(a,K)", "kind(a,atom); none"}, {"kind(f(X),K)", "kind(f(_0),comp); none"},
		{"one(X)", "one(1); none"}, {"in(X)", "in(1); none"}, {"in(7)", "in(7); none"}, {"in(8)", "in(8); none"}, {"in(9)", "none"}, {"out(X)", "out(1); out(2); none"}, {"then(X)", "then(1); then(2); none"}, {"else(X)", "else(1); none"},
		{"not(1)", "<yes(1)>not(1); none"}, {"not(2)", "<not>not(2); <yes(2)>not(2); none"}, {"not(X)", "<yes(_0)>not(_0); none"},
		{"late(X,Y)", "<a + _0>late(a,c); late(a,_0); <_0 + b>late(_0,b); none"}, {"never", "none"},
		{"branch(X,Y,Z)", "branch(1,f(_0),h(_0)); branch(_0,f(_1),h(_2)); none"}, {"branch(3,Y,Z)", "branch(3,f(_0),h(_1)); none"}, {"branch(3,a,Z)", "none"}, {"branch(3,a,h(X))", "branch(3,a,h(_0)); none"},
		{"'a b'(X)", "<_0>'a b'(_0); none"}, {"','(a,B,C)", "<[a,_0,_1]>','(a,_0,_1); none"}, {"call(1,2,3,4,5,6,7,8,9)", "<9>call(1,2,3,4,5,6,7,8,9); none"}, {"true(X), X > 2", "true(3),3 > 2; none"}, {"!(X)", "!(1); none"},
		{"p(X), !", "p(1),!; none"}, {"(p(X), ! ; true)", "p(1),! ; true; none"}, {"p(X), (X > 1, ! ; fail)", "p(2),(2 > 1,! ; fail); none"}, {"(fail ; p(X)), !", "(fail ; p(1)),!; none"},
		{"\\+ fail", "\\+ fail; none"}, {"\\+ true", "none"}, {"\\+ !", "none"}, {"\\+ \\+ p(X)", "\\+ \\+ p(_0); none"}, {"\\+ (p(X), X > 3)", "\\+ (p(_0),_0 > 3); none"}, {"p(X), \\+ (p(Y), Y > X)", "p(3),\\+ (p(_0),_0 > 3); none"},
		{"(p(X) -> p(Y))", "p(1) -> p(1); p(1) -> p(2); p(1) -> p(3); none"}, {"(fail -> true)", "none"}, {"((fail -> true) ; true)", "fail -> true ; true; none"}, {"(true ; fail -> true)", "true ; fail -> true; none"},
		{"((p(X) -> fail ; true) ; X = 5)", "(p(5) -> fail ; true) ; 5 = 5; none"}, {"(p(X), X > 1, ! -> true), p(Y), !", "(p(2),2 > 1,! -> true),p(1),!; none"},
		{"p(X), (X > 1 -> ! ; true), print(X)", "<1>p(1),(1 > 1 -> ! ; true),print(1); <2>p(2),(2 > 1 -> ! ; true),print(2); none"},
		{"(p(X), (true -> !), X > 1 -> true ; X = 0)", "p(0),(true -> !),0 > 1 -> true ; 0 = 0; none"}, {"\\+ (p(X), (true -> ! ; true), X > 1)", "\\+ (p(_0),(true -> ! ; true),_0 > 1); none"}, {"\\+ (p(X), (fail -> true ; !), X > 1)", "\\+ (p(_0),(fail -> true ; !),_0 > 1); none"},
		{"(p(X), (! -> true), \\+ \\+ !, X > 1 -> true)", "p(2),(! -> true),\\+ \\+ !,2 > 1 -> true; none"}, {"p(X), \\+ (p(Y), (true ; !), Y > X)", "p(1),\\+ (p(_0),(true ; !),_0 > 1); p(2),\\+ (p(_0),(true ; !),_0 > 2); p(3),\\+ (p(_0),(true ; !),_0 > 3); none"},
		{"X is 1 + 1, Y = f(X,Z)", "2 is 1 + 1,f(2,_0) = f(2,_0); none"}, {"f(X,Y) = f(Y,Z), Z = a, print(X), nl", "<a\n>f(a,a) = f(a,a),a = a,print(a),nl; none"},
		{"perm([a,b],X)", "perm([a,b],[a,b]); perm([a,b],[b,a]); none"}, {"rev([a,b,C],X)", "rev([a,b,_0],[_0,b,a]); none"},
		{"print(a), loop", "<a>out"},
	} {
		m := started(t, l, read(t, x[0]))
		got := ""
		for range 9 {
			o := m.Next(20000)
			if got += brief(o); o.Kind != api.Answer {
				break
			}
			got += "; "
		}
		if got != x[1] {
			t.Errorf("%s: %s, not %s", x[0], got, x[1])
		}
	}
}

// TestPrograms: a machine tells what a search tells, within the steps that the document gives it.
func TestPrograms(t *testing.T) {
	l := program(t, library)
	for _, query := range []string{
		"app(X,Y,[a,b,c])", "app([a],[b|X],Y)", "app(X,X,[1,2,1,2])", "app(X,[a],Y)", "rev([a,b,c,D],X)", "has(X,[a,B,f(B)])", "has(f(X),[a,Y,f(b),f(X,X),f(Z)])",
		"first(X,[a,b])", "first(X,Y), X = a", "has(X,[a,b]), first(Y,[X,c])", "perm([a,b,c],X)", "perm([a,X],[X,a])", "size([a,b,c],N)", "size(X,N)", "big(1,2)", "big(2,1)", "big(2,a)", "big(X,1)", "other(X,a)", "other(b,a)", "other(f(X),X)",
		"map(X)", "bad(a)", "bad(X)", "app(X,Y,[a,b]), bad(X)", "odd(X,Y,Z)", "odd(X,X,Y)", "odd(f(X),Y,X)", "app(X,Y,[a]), nope(X,Y)", "X = Y, print(X), Y = f(Z), print(X)", "has(X,[a,b,c]), print(X), fail", "sum(30,X)", "sum(X,Y)",
		"map([X,Y,Z,W]), \\+ X = red, (Y = blue -> true ; Z = blue)", "perm([1,2,3,4],[A,B,C,D]), A > B, B < C, C > D", "loops(a)", "p(X), p(Y), X < Y, (X = 1, Y = 2, fail ; true)", "(p(X) ; c(X) ; d(X) ; out(X)), print(X), X > 2", "p(X), \\+ \\+ (X = 2, print(X)), !", "late(X,Y), late(Y,X)",
		"functor(X,f,2), arg(N,X,a)", "functor(X,f,2), arg(1,X,a), X =.. [Y|Z], copy_term(Z,W), sort([b,a],S), compare(O,S,W), atom_chars(Q,S), atom_length(Q,K), length(S,K)",
	} {
		held(t, l, read(t, query), 4000, 30)
	}
}

// TestErrors: which, and which first.
func TestErrors(t *testing.T) {
	fact := func(s string) api.Clause { return api.Clause{Head: read(t, s), Body: a("true")} }
	with := func(head, body api.Term) api.Clause { return api.Clause{Head: head, Body: body} }
	good, kind, wide := fact("p(X)"), with(a("p"), read(t, "call(p)")), joined(many(api.MaxArity+1))
	none, noClause := with(a("p"), api.Term{}), fact("print(a)")
	for k, x := range []struct {
		l     []api.Clause
		query api.Term
		want  api.Errno
	}{
		{nil, a("a"), api.OK}, {[]api.Clause{}, a("a"), api.OK}, {[]api.Clause{good}, a("a"), api.OK},
		{nil, api.Term{}, api.ErrTerm}, {[]api.Clause{noClause}, api.Term{}, api.ErrTerm}, {[]api.Clause{kind}, c("p", v(-1)), api.ErrTerm},
		{[]api.Clause{good, none}, a("a"), api.ErrTerm}, {[]api.Clause{with(v(-1), a("true"))}, a("a"), api.ErrTerm}, {[]api.Clause{none, noClause}, a("a"), api.ErrTerm}, {[]api.Clause{noClause, none}, a("a"), api.ErrClause},
		{[]api.Clause{noClause}, a("a"), api.ErrClause}, {[]api.Clause{fact("p(Y,X)"), with(read(t, "p(Y,X)"), i(3))}, a("a"), api.ErrClause},
		{[]api.Clause{with(c("p", v(1)), a("true"))}, a("a"), api.ErrClause}, {[]api.Clause{with(a("p"), c("q", v(1)))}, a("a"), api.ErrClause}, {[]api.Clause{with(v(0), a("true"))}, a("a"), api.ErrClause}, {[]api.Clause{with(i(0), a("true"))}, a("a"), api.ErrClause},
		{[]api.Clause{with(a("p"), v(0))}, a("a"), api.ErrClause}, {[]api.Clause{with(a("p"), c(",", a("a"), i(1)))}, a("a"), api.ErrClause}, {[]api.Clause{with(a("!"), a("true"))}, a("a"), api.ErrClause},
		{[]api.Clause{none}, i(1), api.ErrTerm}, {[]api.Clause{noClause}, i(1), api.ErrClause}, {[]api.Clause{kind, none}, v(0), api.ErrTerm}, {[]api.Clause{kind, noClause}, wide, api.ErrClause},
		{nil, i(1), api.ErrClause}, {nil, c(",", a("a"), i(1)), api.ErrClause}, {nil, c("->", c(";", i(1), v(0)), a("b")), api.ErrClause}, {[]api.Clause{kind}, i(1), api.ErrClause}, {nil, c(",", v(0), i(1)), api.ErrClause},
		{[]api.Clause{kind}, a("a"), api.ErrKind}, {[]api.Clause{good, good, kind}, a("a"), api.ErrKind}, {[]api.Clause{kind}, wide, api.ErrKind}, {nil, c(",", v(99), wide), api.ErrKind},
		{nil, wide, api.ErrLarge}, {[]api.Clause{good}, wide, api.ErrLarge}, {nil, joined(many(api.MaxArity)), api.OK},
	} {
		got, err := compile.Compile(x.l, x.query)
		if err != x.want {
			t.Errorf("%d: %s of %s: %v, not %v", k, show(x.query), showClauses(x.l), err, x.want)
		}
		if err != api.OK && !isZero(got) {
			t.Errorf("%d: there is code beside %v", k, err)
		}
	}
}

// many is goals with so many variables, all unlike.
func many(n int) []api.Term {
	var l []api.Term
	for k := range n {
		l = append(l, c("f", v(int64(7*k))))
	}
	return l
}

func isZero(x api.Code) bool { return len(x.Instrs) == 0 && len(x.Entries) == 0 && x.Query == 0 }

// TestWhatCanBe: which bodies can be compiled, of a query, of a clause, and as parts of others.
func TestWhatCanBe(t *testing.T) {
	bodies := map[api.Errno][]string{
		api.OK: {
			"true", "fail", "!", "nl", "a", "p(X)", "a, b", "a ; b", "a -> b", "\\+ a", "\\+ (a, !)", "\\+ \\+ p(X)", "(a -> b ; c)", "a = b", "a \\= b", "a == b", "a \\== b", "a @< b", "a @> b", "a @=< b", "a @>= b", "compare(A,B,C)",
			"var(A)", "nonvar(A)", "atom(A)", "integer(A)", "atomic(A)", "compound(A)", "callable(A)", "ground(A)", "functor(A,B,C)", "arg(A,B,C)", "A =.. B", "copy_term(A,B)", "A is B", "A =:= B", "A =\\= B", "A < B", "A > B", "A =< B", "A >= B",
			"atom_length(A,B)", "atom_chars(A,B)", "length(A,B)", "sort(A,B)", "print(A)", "throw(A)", "call", "call(A,B,C,D,E,F,G,H,I)", "true(A)", "!(A)", "','(A,B,C)", "\\+(A,B)", "assertz(A,B)", "between(A,B)", "f(call(X))", "print(assertz(X))", "print((X,1))", "p(\\+ X, \\+ 1)", "','", "\\+", "(:-)", "[a]",
		},
		api.ErrKind: {
			"call(a)", "call(X)", "call(a,B)", "call(A,B,C,D,E,F,G,H)", "catch(a,b,c)", "findall(X,a,L)", "between(1,2,X)", "assertz(a)", "asserta(a)", "retract(a)", "X", ":- a", "a :- b", "a --> b",
			"\\+ X", "\\+ 1", "\\+ (a, X)", "\\+ (a, 1)", "\\+ (1 -> a)", "\\+ (a ; X)", "\\+ \\+ X", "\\+ \\+ 3", "\\+ call(a)", "\\+ (a -> retract(b))", "\\+ (a :- b)",
		},
	}
	for want, l := range bodies {
		for _, s := range l {
			body := read(t, s)
			for _, whole := range []api.Term{
				body, c(",", a("a"), body), c(",", body, a("a")), c(";", body, a("a")), c(";", a("a"), body), c("->", body, a("a")), c("->", a("a"), body), c(";", c("->", a("a"), body), a("b")), c(",", a("fail"), body),
				c("\\+", body), c("\\+", c(",", a("a"), c("\\+", body))),
			} {
				if _, err := compile.Compile(nil, whole); err != want {
					t.Errorf("%s: %v, not %v", show(whole), err, want)
				}
				l := []api.Clause{{Head: a("p"), Body: a("true")}, made(t, c(":-", a("p"), whole))}
				if _, err := compile.Compile(l, a("a")); err != want {
					t.Errorf("p :- %s: %v, not %v", show(whole), err, want)
				}
			}
		}
	}
}

// TestFirstArgs: clauses are chosen by the first Arg; the last one that is left is gone to without a choice, as a search does.
func TestFirstArgs(t *testing.T) {
	keys := []api.Term{a("a"), i(0), c("f", v(0)), v(0), a("f"), c("f", v(0), a("b"))}
	goals := append([]api.Term{a("b"), i(2), c("f", a("c")), c("f", a("c"), v(5)), c("g", v(5)), a("")}, keys...)
	const longest = 4
	number := 1
	for range longest {
		number *= len(keys) + 1
	}
	for n := range number {
		var l []api.Clause
		for range longest {
			if k := n % (len(keys) + 1); k > 0 {
				l = append(l, made(t, c("p", keys[k-1], i(int64(len(l))))))
			}
			n /= len(keys) + 1
		}
		if len(l) == 0 {
			continue
		}
		for _, goal := range goals {
			query := c("p", goal, v(9))
			answers := 0
			for _, kind := range held(t, l, query, 100, longest+1) {
				if kind == api.Answer {
					answers++
				}
			}
			m := started(t, l, query)
			for k := range answers {
				if o := m.Next(1000); o.Kind != api.Answer {
					t.Fatalf("%s of %s: answer %d is %s", show(query), showClauses(l), k, told(o))
				}
			}
			if answers == 0 {
				continue
			}
			if o := m.Next(0); o.Kind != api.None {
				t.Fatalf("%s of %s: a choice is left behind the last answer: %s", show(query), showClauses(l), told(o))
			}
		}
	}
}
