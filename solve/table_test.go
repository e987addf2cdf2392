package solve_test

import (
	"strings"
	"testing"

	"hornbook/api"
	"hornbook/base"
	"hornbook/solve"
)

func TestMakingTerms(t *testing.T) {
	expect(t, [][2]string{
		{"functor(f(a,b),N,K)", "functor(f(a,b),f,2); none"},
		{"functor(a,N,K)", "functor(a,a,0); none"},
		{"functor(7,N,K)", "functor(7,7,0); none"},
		{"functor([a],N,K)", "functor([a],'.',2); none"},
		{"functor(f(a),f,1)", "functor(f(a),f,1); none"},
		{"functor(f(a),g,K)", "none"},
		{"functor(f(a),f,2)", "none"},
		{"functor(f(X),X,K)", "functor(f(f),f,1); none"},
		{"functor(f(a),f(b),K)", "none"},
		{"functor(a,a,b)", "none"},
		{"functor(X,X,X)", "ball unbound"},
		{"functor(T,f,2)", "functor(f(_0,_1),f,2); none"},
		{"functor(T,f,0)", "functor(f,f,0); none"},
		{"functor(T,7,0)", "functor(7,7,0); none"},
		{"functor(T,7,1)", "ball wrong_kind"},
		{"functor(T,N,1)", "ball unbound"},
		{"functor(T,f,K)", "ball unbound"},
		{"functor(T,f(a),K)", "ball unbound"},
		{"functor(T,N,a)", "ball unbound"},
		{"functor(T,f,a)", "ball wrong_kind"},
		{"functor(T,f,-1)", "ball wrong_kind"},
		{"functor(T,f,51)", "ball wrong_kind"},
		{"functor(T,f,50), arg(50,T,x), arg(K,T,y)", "ball unbound"},
		{"functor(T,f(a),0)", "ball wrong_kind"},
		{"functor(T,f(a),1)", "ball wrong_kind"},
		{"functor(T,f,f(1))", "ball wrong_kind"},
		{"arg(1,f(a,b),X)", "arg(1,f(a,b),a); none"},
		{"arg(2,f(a,b),X)", "arg(2,f(a,b),b); none"},
		{"arg(3,f(a,b),X)", "none"}, {"arg(0,f(a,b),X)", "none"}, {"arg(-1,f(a,b),X)", "none"},
		{"arg(1,f(X),a)", "arg(1,f(a),a); none"},
		{"arg(1,f(b),a)", "none"},
		{"arg(1,f(X),f(X))", "none"},
		{"arg(K,f(a),X)", "ball unbound"}, {"arg(1,T,X)", "ball unbound"}, {"arg(a,T,X)", "ball unbound"}, {"arg(K,a,X)", "ball unbound"},
		{"arg(a,f(a),X)", "ball wrong_kind"}, {"arg(1,a,X)", "ball wrong_kind"}, {"arg(1,1,X)", "ball wrong_kind"}, {"arg(0,a,X)", "ball wrong_kind"},
		{"f(a,X) =.. L", "f(a,_0) =.. [f,a,_0]; none"},
		{"a =.. L", "a =.. [a]; none"},
		{"7 =.. L", "7 =.. [7]; none"},
		{"[a] =.. L", "[a] =.. ['.',a,[]]; none"},
		{"f(a) =.. [N|A]", "f(a) =.. [f,a]; none"},
		{"f(a) =.. [g|A]", "none"},
		{"f(a) =.. a", "none"},
		{"T =.. [f,a,X]", "f(a,_0) =.. [f,a,_0]; none"},
		{"T =.. [f]", "f =.. [f]; none"},
		{"T =.. [7]", "7 =.. [7]; none"},
		{"T =.. L", "ball unbound"}, {"T =.. [f|L]", "ball unbound"}, {"T =.. [X]", "ball unbound"}, {"T =.. [X,a]", "ball unbound"}, {"T =.. [f(a)|L]", "ball unbound"},
		{"T =.. []", "ball wrong_kind"}, {"T =.. a", "ball wrong_kind"}, {"T =.. [f|a]", "ball wrong_kind"}, {"T =.. [X|a]", "ball wrong_kind"}, {"T =.. 7", "ball wrong_kind"},
		{"T =.. [f(a)]", "ball wrong_kind"}, {"T =.. [f(a),b]", "ball wrong_kind"}, {"T =.. [7,b]", "ball wrong_kind"},
		{"T =.. [f,T]", "none"},
		{"T =.. '.'(f)", "ball wrong_kind"}, {"T =.. '.'(f,[],[])", "ball wrong_kind"},
	})
	fifty := strings.Repeat(",x", api.MaxArity)
	expect(t, [][2]string{
		{"T =.. [f" + fifty + "]", "f(" + fifty[1:] + ") =.. [f" + fifty + "]; none"},
		{"T =.. [f" + fifty + ",x]", "ball wrong_kind"},
		{"T =.. [X" + fifty + ",x]", "ball unbound"},
	})
}

func TestNumbers(t *testing.T) {
	expect(t, [][2]string{
		{"X is 1 + 2 * 3", "7 is 1 + 2 * 3; none"},
		{"Y = 2, X is -Y ** 3", "2 = 2,-8 is - 2 ** 3; none"},
		{"7 is 7", "7 is 7; none"},
		{"1 + 6 is 7", "none"},
		{"7 is 8", "none"},
		{"X is Y", "ball unbound"}, {"X is 1 + Y", "ball unbound"}, {"X is a", "ball not_evaluable(a / 0)"}, {"X is foo(1,Y)", "ball not_evaluable(foo / 2)"},
		{"X is Y + a", "ball unbound"}, {"X is a + Y", "ball not_evaluable(a / 0)"}, {"X is [1]", "ball not_evaluable('.' / 2)"},
		{"X is 1 // 0", "ball zero_divide"}, {"X is 2 ** -1", "ball negative"}, {"X is 9223372036854775807 + 1", "ball overflow"},
		{"X is 1 // 0 + Y", "ball zero_divide"}, {"X is (1 // 0) + a", "ball zero_divide"}, {"X is abs(-7) + sign(-3)", "6 is abs(-7) + sign(-3); none"},
		{"1 + 1 =:= 2, 1 =\\= 2, 1 < 2, 2 > 1, 1 =< 1, 1 >= 1, 1 =< 2, 2 >= 1", "1 + 1 =:= 2,1 =\\= 2,1 < 2,2 > 1,1 =< 1,1 >= 1,1 =< 2,2 >= 1; none"},
		{"1 =:= 2", "none"}, {"1 =\\= 1", "none"}, {"1 < 1", "none"}, {"1 > 1", "none"}, {"2 =< 1", "none"}, {"1 >= 2", "none"},
		{"X < a", "ball unbound"}, {"a < X", "ball not_evaluable(a / 0)"}, {"1 =:= X", "ball unbound"}, {"1 // 0 > X", "ball zero_divide"},
		{"between(1,3,X)", "between(1,3,1); between(1,3,2); between(1,3,3); none"},
		{"between(2,2,X)", "between(2,2,2); none"},
		{"between(3,2,X)", "none"},
		{"between(1,3,2)", "between(1,3,2); none"}, {"between(1,3,1)", "between(1,3,1); none"}, {"between(1,3,3)", "between(1,3,3); none"},
		{"between(1,3,0)", "none"}, {"between(1,3,4)", "none"},
		{"between(A,3,X)", "ball unbound"}, {"between(1,B,X)", "ball unbound"}, {"between(a,B,X)", "ball unbound"}, {"between(1,B,a)", "ball unbound"},
		{"between(a,3,X)", "ball wrong_kind"}, {"between(1,1 + 1,X)", "ball wrong_kind"}, {"between(1,3,a)", "ball wrong_kind"}, {"between(3,1,a)", "ball wrong_kind"},
		{"between(9223372036854775806,9223372036854775807,X)", "between(9223372036854775806,9223372036854775807,9223372036854775806); between(9223372036854775806,9223372036854775807,9223372036854775807); none"},
		{"between(-9223372036854775808,9223372036854775807,X), !", "between(-9223372036854775808,9223372036854775807,-9223372036854775808),!; none"},
	})
}

func TestAtomsAndLists(t *testing.T) {
	expect(t, [][2]string{
		{"atom_length(abc,N)", "atom_length(abc,3); none"}, {"atom_length('',N)", "atom_length('',0); none"}, {"atom_length([],2)", "atom_length([],2); none"},
		{"atom_length(abc,2)", "none"}, {"atom_length(abc,a)", "none"}, {"atom_length('\\xff\\x00',N)", "atom_length('\\xff\\x00',2); none"},
		{"atom_length(X,N)", "ball unbound"}, {"atom_length(1,N)", "ball wrong_kind"}, {"atom_length(f(a),N)", "ball wrong_kind"},
		{"atom_chars(abc,L)", "atom_chars(abc,[a,b,c]); none"}, {"atom_chars('',L)", "atom_chars('',[]); none"}, {"atom_chars('A\\xff',[X|Y])", "atom_chars('A\\xff',['A','\\xff']); none"},
		{"atom_chars(ab,[a,X])", "atom_chars(ab,[a,b]); none"}, {"atom_chars(ab,[a])", "none"}, {"atom_chars(ab,a)", "none"},
		{"atom_chars(1,L)", "ball wrong_kind"}, {"atom_chars(f(a),L)", "ball wrong_kind"},
		{"atom_chars(A,[a,'B','1'])", "atom_chars(aB1,[a,'B','1']); none"}, {"atom_chars(A,[])", "atom_chars('',[]); none"},
		{"atom_chars(A,L)", "ball unbound"}, {"atom_chars(A,[a|L])", "ball unbound"}, {"atom_chars(A,[a,X])", "ball unbound"}, {"atom_chars(A,[1,X])", "ball unbound"}, {"atom_chars(A,[1|X])", "ball unbound"},
		{"atom_chars(A,a)", "ball wrong_kind"}, {"atom_chars(A,[a|b])", "ball wrong_kind"}, {"atom_chars(A,[X|b])", "ball wrong_kind"}, {"atom_chars(A,[ab])", "ball wrong_kind"},
		{"atom_chars(A,[''])", "ball wrong_kind"}, {"atom_chars(A,[1])", "ball wrong_kind"}, {"atom_chars(A,[f(a)])", "ball wrong_kind"},
		{"length([a,X],N)", "length([a,_0],2); none"}, {"length([],N)", "length([],0); none"}, {"length([a],2)", "none"}, {"length([a],b)", "none"},
		{"length(L,2)", "ball unbound"}, {"length([a|L],N)", "ball unbound"}, {"length(a,N)", "ball wrong_kind"}, {"length([a|b],N)", "ball wrong_kind"}, {"length(1,N)", "ball wrong_kind"},
		{"sort([c,1,b,f(1),c],L)", "sort([c,1,b,f(1),c],[1,b,c,f(1)]); none"}, {"sort([],L)", "sort([],[]); none"}, {"sort([a,a],[a])", "sort([a,a],[a]); none"}, {"sort([b,a],[b,a])", "none"},
		{"sort([f(b,a),g(a),f(a,b),f(1),2,-1,z,2],L)", "sort([f(b,a),g(a),f(a,b),f(1),2,-1,z,2],[-1,2,z,f(1),g(a),f(a,b),f(b,a)]); none"},
		{"sort([b,a],[X|Y])", "sort([b,a],[a,b]); none"}, {"sort([a],b)", "none"},
		{"sort([a|X],L)", "ball unbound"}, {"sort(X,L)", "ball unbound"}, {"sort([X],L)", "ball unbound"}, {"sort([a,f(g(X))],L)", "ball unbound"}, {"sort([X|a],L)", "ball wrong_kind"}, {"sort(a,L)", "ball wrong_kind"},
		{"X = 1, sort([2,X],L)", "1 = 1,sort([2,1],[1,2]); none"},
	})
	chars := strings.Repeat("x,", api.MaxName-1) + "x"
	name := strings.Repeat("x", api.MaxName)
	expect(t, [][2]string{
		{"atom_chars(A,[" + chars + "])", "atom_chars(" + name + ",[" + chars + "]); none"},
		{"atom_chars(A,[" + chars + ",x])", "ball wrong_kind"},
		{"atom_chars(A,[" + chars + ",X])", "ball unbound"},
		{"atom_length(" + name + ",N)", "atom_length(" + name + ",100); none"},
	})
}

func TestPrinting(t *testing.T) {
	expect(t, [][2]string{
		{"print(f(X,Y,X)), nl, print(Y)", "<f(_0,_1,_0)\n_0>print(f(_0,_1,_0)),nl,print(_1); none"},
		{"X = 'a b', print([X,1 + 2 * 3,-1,- (1),\\+ a,(a :- b,c)|T])", "<['a b',1 + 2 * 3,-1,- 1,\\+ a,(a :- b,c)|_0]>'a b' = 'a b',print(['a b',1 + 2 * 3,-1,- 1,\\+ a,(a :- b,c)|_0]); none"},
		{"p(X), print(X), fail", "<123>none"},
		{"p(X), print(X), X > 1, throw(ball)", "<12>ball ball"},
		{"print(a), \\+ (print(b), fail), findall(X,(p(X),print(X)),L), (print(c) -> print(d) ; true), catch((print(e),throw(x)),x,print(f)), fail", "<ab123cdef>none"},
		{"print(''), nl, nl", "<''\n\n>print(''),nl,nl; none"},
	})
	// Each outcome has the text of its own way.
	s := search(t, filled(t, library), "print(a), p(X), print(X), X < 3 ; print(z)")
	for k, want := range []string{"a1", "2", "3z", ""} {
		if o := s.Next(plenty); o.Text != want {
			t.Errorf("%d: %s", k, showOutcome(o))
		}
	}
}

func TestLayingDown(t *testing.T) {
	for _, l := range [][3]string{
		{"assertz(q(3))", "assertz(q(3)); none", "q(1). q(2). r(X) :- q(X). q(3). "},
		{"asserta(q(3))", "asserta(q(3)); none", "q(3). q(1). q(2). r(X) :- q(X). "},
		{"assertz((s(X,Y) :- q(X),Y))", "assertz((s(_0,_1) :- q(_0),_1)); none", "q(1). q(2). r(X) :- q(X). s(X,Y) :- q(X),call(Y). "},
		{"asserta((q(X) :- X = f(Y),Y))", "asserta((q(_0) :- _0 = f(_1),_1)); none", "q(X) :- X = f(Y),call(Y). q(1). q(2). r(X) :- q(X). "},
		{"X = f(Y), assertz(s(Y,X,Z,Z))", "f(_0) = f(_0),assertz(s(_0,f(_0),_1,_1)); none", "q(1). q(2). r(X) :- q(X). s(X,f(X),Y,Y). "},
		{"assertz((q(3) :- true))", "assertz((q(3) :- true)); none", "q(1). q(2). r(X) :- q(X). q(3). "},
		{"assertz(X)", "ball unbound", ""}, {"asserta(X)", "ball unbound", ""}, {"assertz((X :- a))", "ball unbound", ""}, {"asserta((X :- 1))", "ball unbound", ""},
		{"assertz(1)", "ball wrong_kind", ""}, {"assertz((1 :- a))", "ball wrong_kind", ""}, {"asserta((s :- 1))", "ball wrong_kind", ""}, {"assertz((s :- a,1))", "ball wrong_kind", ""},
		{"assertz(print(1))", "ball protected(print / 1)", ""}, {"asserta((a , b))", "ball protected(',' / 2)", ""}, {"assertz((:- a))", "ball protected((:-) / 1)", ""},
		{"assertz((a --> b))", "ball protected((-->) / 2)", ""}, {"assertz(((a :- b) :- c))", "ball protected((:-) / 2)", ""}, {"assertz((true :- 1))", "ball protected(true / 0)", ""},
		{"assertz(call(1))", "ball protected(call / 1)", ""}, {"assertz(print(X,Y)), call(print,1,2)", "assertz(print(_0,_1)),call(print,1,2); none", "q(1). q(2). r(X) :- q(X). print(X,Y). "},
		{"retract(q(X))", "retract(q(1)); none", "q(2). r(X) :- q(X). "},
		{"retract(q(2))", "retract(q(2)); none", "q(1). r(X) :- q(X). "},
		{"retract(q(3))", "none", ""},
		{"retract((q(X) :- B))", "retract((q(1) :- true)); none", "q(2). r(X) :- q(X). "},
		{"retract((r(X) :- B))", "retract((r(_0) :- q(_0))); none", "q(1). q(2). "},
		{"retract((r(a) :- q(Y)))", "retract((r(a) :- q(a))); none", "q(1). q(2). "},
		{"retract(r(X))", "none", ""}, {"retract((r(X) :- X))", "none", ""}, {"retract((r(a) :- q(b)))", "none", ""}, {"retract((q(X) :- 1))", "none", ""}, {"retract(nope)", "none", ""}, {"retract((nope :- X))", "none", ""},
		{"retract((q(X) :- X))", "none", ""},
		{"retract(X)", "ball unbound", ""}, {"retract((X :- a))", "ball unbound", ""}, {"retract(1)", "ball wrong_kind", ""}, {"retract((1 :- X))", "ball wrong_kind", ""},
		{"retract(true)", "ball protected(true / 0)", ""}, {"retract((a , b))", "ball protected(',' / 2)", ""}, {"retract((:- X))", "ball protected((:-) / 1)", ""}, {"retract((atom(X) :- 1))", "ball protected(atom / 1)", ""},
		{"q(X), Y is X + 2, assertz(q(Y))", "q(1),3 is 1 + 2,assertz(q(3)); q(2),4 is 2 + 2,assertz(q(4)); none", "q(1). q(2). r(X) :- q(X). q(3). q(4). "},
		{"q(X), retract(q(2))", "q(1),retract(q(2)); none", "q(1). r(X) :- q(X). "},
		{"retract(q(1)), retract(q(2)), q(X)", "none", "r(X) :- q(X). "},
		{"retract(q(1)), retract(q(2)), \\+ q(X), assertz(q(5)), q(X)", "retract(q(1)),retract(q(2)),\\+ q(5),assertz(q(5)),q(5); none", "r(X) :- q(X). q(5). "},
		{"assertz(s(1)), retract(s(1)), s(X)", "none", ""},
		{"assertz(s(1)), fail ; s(X)", "assertz(s(1)),fail ; s(1); none", "q(1). q(2). r(X) :- q(X). s(1). "},
		{"retract(q(X)), fail", "none", "q(2). r(X) :- q(X). "},
		{"retract(q(f(X)))", "none", ""},
	} {
		b := filled(t, "q(1). q(2). r(X) :- q(X).")
		if got := outcomes(t, b, l[0]); got != l[1] {
			t.Errorf("%s: %s, not %s", l[0], got, l[1])
		}
		want := l[2]
		if want == "" {
			want = "q(1). q(2). r(X) :- q(X). "
		}
		if got := clausesOf(t, b); got != clausesOf(t, filled(t, want)) {
			t.Errorf("%s leaves %s, not %s", l[0], got, want)
		}
	}
}

func TestPredicates(t *testing.T) {
	expect(t, [][2]string{
		{"nope", "ball unknown(nope / 0)"}, {"nope(1,X)", "ball unknown(nope / 2)"}, {"p", "ball unknown(p / 0)"}, {"p(1,2)", "ball unknown(p / 2)"},
		{"gone", "none"}, {"p(4)", "none"}, {"p(a)", "none"},
		{":- a", "ball protected((:-) / 1)"}, {"(a :- b)", "ball protected((:-) / 2)"}, {"(a --> b)", "ball protected((-->) / 2)"}, {"call((:-),a)", "ball protected((:-) / 1)"},
		{"-->(a)", "ball unknown((-->) / 1)"}, {"':-'(a,b,c)", "ball unknown((:-) / 3)"},
		{"q(X)", "q(a); q(f(_0)); q(_0); none"}, {"q(b)", "q(b); none"}, {"q(f(1))", "q(f(1)); q(f(1)); none"},
		{"p(X), p(Y), Y is X + 1", "p(1),p(2),2 is 1 + 1; p(2),p(3),3 is 2 + 1; none"},
		{"app(X,[c],[a,b,c])", "app([a,b],[c],[a,b,c]); none"},
		{"app(X,X,[a,Y])", "app([a],[a],[a,a]); none"},
		{"[a]", "ball unknown('.' / 2)"},
	})
}

// TestSteps: each goal that is taken is one, also a control goal, and one that fails; nothing else is.
func TestSteps(t *testing.T) {
	for _, l := range []struct {
		query string
		steps []int
	}{
		{"true", []int{1, 0}}, {"fail", []int{1, 0}}, {"!", []int{1, 0}}, {"true, true", []int{3, 0}}, {"(true ; true)", []int{2, 1, 0}},
		{"(true -> true ; true)", []int{3, 0}}, {"(fail -> true ; true)", []int{3, 0}}, {"(fail -> true)", []int{3, 0}}, {"(true -> true)", []int{3, 0}},
		{"\\+ fail", []int{2, 0}}, {"\\+ true", []int{2, 0}}, {"call(true)", []int{2, 0}}, {"call(call,true)", []int{3, 0}}, {"findall(X,p(X),L)", []int{5, 0}},
		{"p(X)", []int{2, 1, 1, 0}}, {"p(2)", []int{2, 0}}, {"p(4)", []int{1, 0}}, {"between(1,3,X)", []int{1, 1, 1, 0}},
		{"catch(true,_,true)", []int{2, 0}}, {"catch(p(X),_,true)", []int{3, 1, 1, 0}}, {"catch(throw(a),a,true)", []int{3, 0}}, {"catch(throw(a),_,X)", []int{3, 0}}, {"catch(throw(a),a,1)", []int{2, 0}},
		{"throw(a)", []int{1, 0}}, {"X = 1", []int{1, 0}}, {"X", []int{1, 0}}, {"nope", []int{1, 0}}, {"catch(1,_,true)", []int{2, 0}}, {"\\+ 1", []int{1, 0}}, {"first(X)", []int{5, 0}},
		{"p(X), X > 1", []int{6, 2, 0}}, {"app(X,Y,[a])", []int{2, 2, 0}}, {"cutthen(X)", []int{7, 0}},
	} {
		b := filled(t, library)
		s := search(t, b, l.query)
		for k, want := range l.steps {
			if o := s.Next(plenty); o.Steps != want {
				t.Errorf("%s: outcome %d in %d steps, not %d", l.query, k, o.Steps, want)
			}
		}
		// As many steps as there are needed are enough, one less is not.
		s, short := search(t, b, l.query), search(t, b, l.query)
		for k, want := range l.steps {
			o := s.Next(want)
			if o.Kind == api.Out || o.Steps != want {
				t.Errorf("%s: outcome %d with %d steps: %s", l.query, k, want, showOutcome(o))
			}
			if want == 0 {
				continue
			}
			if k > 0 {
				short = search(t, b, l.query)
				for _, steps := range l.steps[:k] {
					short.Next(steps)
				}
			}
			o = short.Next(want - 1)
			if o.Kind != api.Out || o.Steps != want-1 {
				t.Errorf("%s: outcome %d with %d steps: %s", l.query, k, want-1, showOutcome(o))
			}
		}
	}
}

func TestOut(t *testing.T) {
	b := filled(t, library)
	for _, steps := range []int{0, -1, least, least + 1} {
		s := search(t, b, "true")
		if got, want := showOutcome(s.Next(steps)), showOutcome(api.Outcome{Kind: api.Out}); got != want {
			t.Errorf("with %d steps: %s", steps, got)
		}
		for range 3 {
			if got, want := showOutcome(s.Next(plenty)), showOutcome(api.Outcome{Kind: api.None}); got != want {
				t.Errorf("behind Out with %d steps: %s", steps, got)
			}
		}
		// Where nothing is left to be done, no step is needed.
		s = search(t, b, "true")
		s.Next(1)
		if got, want := showOutcome(s.Next(steps)), showOutcome(api.Outcome{Kind: api.None}); got != want {
			t.Errorf("with %d steps, at the end: %s", steps, got)
		}
	}
	for _, query := range []string{"print(a), loop", "print(a), \\+ loop", "print(a), (loop -> true ; true)", "print(a), findall(X,loop,L)", "print(a), catch(loop,_,true)", "print(a), \\+ \\+ findall(X,(p(X),(loop -> true)),L)"} {
		for _, steps := range []int{2, 3, 50, 1000} {
			s := search(t, b, query)
			o := s.Next(steps)
			if o.Kind != api.Out || o.Steps != steps || o.Text != "a" || !isZero(o.Term) || !isZero(o.Ball) {
				t.Errorf("%s with %d steps: %s", query, steps, showOutcome(o))
			}
			if o := s.Next(steps); showOutcome(o) != showOutcome(api.Outcome{Kind: api.None}) {
				t.Errorf("%s behind Out: %s", query, showOutcome(o))
			}
		}
	}
	// The steps of one outcome are not those of the next.
	s := search(t, b, "p(X)")
	for range 3 {
		if o := s.Next(2); o.Kind != api.Answer {
			t.Error(showOutcome(o))
		}
	}
}

func TestBehindTheEnd(t *testing.T) {
	for _, query := range []string{"fail", "throw(a)", "X", "print(a), nope", "true", "p(X), X > 2"} {
		s := search(t, filled(t, library), query)
		for s.Next(plenty).Kind == api.Answer {
			continue
		}
		for range 3 {
			if o := s.Next(plenty); showOutcome(o) != showOutcome(api.Outcome{Kind: api.None}) {
				t.Errorf("%s: %s", query, showOutcome(o))
			}
		}
	}
}

func TestErrors(t *testing.T) {
	b := filled(t, library)
	for _, l := range []struct {
		query api.Term
		want  api.Errno
	}{
		{i(1), api.ErrClause}, {c(",", a("true"), i(1)), api.ErrClause}, {c(";", c("->", i(1), a("a")), a("b")), api.ErrClause},
		{c(",", i(1), api.Term{}), api.ErrTerm}, {c("f", i(1)), api.OK}, {v(7), api.OK}, {c("\\+", i(1)), api.OK}, {c(",", v(1), v(api.MaxVar)), api.OK},
	} {
		s, err := solve.New(b, l.query)
		if err != l.want || (s == nil) != (err != api.OK) {
			t.Errorf("%s: %v", show(l.query), err)
		}
	}
	for _, x := range nones() {
		s, err := solve.New(b, x)
		if err != api.ErrTerm || s != nil {
			t.Errorf("%s: %v", show(x), err)
		}
		if o := s.Next(plenty); showOutcome(o) != showOutcome(api.Outcome{Kind: api.None}) {
			t.Errorf("%s: %s", show(x), showOutcome(o))
		}
	}
}

// TestNumbersOfVariables: those of the query say nothing, also the greatest.
func TestNumbersOfVariables(t *testing.T) {
	b := filled(t, library)
	x, y := v(api.MaxVar), v(1<<39)
	s, err := solve.New(b, c(",", c("=", y, c("f", x, v(5))), c("copy_term", y, v(0))))
	if err != api.OK {
		t.Fatal(err)
	}
	if o := s.Next(plenty); printed(t, o.Term) != "f(_0,_1) = f(_0,_1),copy_term(f(_0,_1),f(_2,_3))" {
		t.Error(showOutcome(o))
	}
	s, _ = solve.New(b, c("throw", c("f", x, y, x)))
	if o := s.Next(plenty); printed(t, o.Ball) != "f(_0,_1,_0)" {
		t.Error(showOutcome(o))
	}
}

// TestSideBySide: two searches over one base, each of which sees what the other lays down, but not in views that it took.
func TestSideBySide(t *testing.T) {
	b := filled(t, "q(1). q(2). q(3).")
	one, other := search(t, b, "q(X), q(Y)"), search(t, b, "retract(q(2)), assertz(q(4)) ; asserta(q(0)) ; assertz(r(1))")
	answer := func(s *solve.Search) string { return printed(t, s.Next(plenty).Term) }
	for k, l := range []struct {
		who  *solve.Search
		want string
	}{
		{one, "q(1),q(1)"}, {other, "retract(q(2)),assertz(q(4)) ; asserta(q(0)) ; assertz(r(1))"}, {one, "q(1),q(2)"}, {one, "q(1),q(3)"},
		{one, "q(2),q(1)"}, {one, "q(2),q(3)"}, {other, "retract(q(2)),assertz(q(4)) ; asserta(q(0)) ; assertz(r(1))"}, {one, "q(2),q(4)"}, {one, "q(3),q(0)"}, {one, "q(3),q(1)"},
	} {
		if got := answer(l.who); got != l.want {
			t.Errorf("%d: %s, not %s", k, got, l.want)
		}
	}
	known := search(t, b, "r(X)")
	if o := search(t, b, "r(X)").Next(plenty); o.Kind != api.Thrown {
		t.Error(showOutcome(o))
	}
	answer(other)
	if got := answer(known); got != "r(1)" {
		t.Error(got)
	}
	// What is done with the base outside is seen likewise.
	s := search(t, b, "q(X)")
	s.Next(plenty)
	b.Remove(b.All()[1])
	made, _ := base.Make(read(t, "q(9)"))
	b.Add(made, false)
	if got := answer(s); got != "q(1)" {
		t.Error(got)
	}
}
