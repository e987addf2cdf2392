package solve_test

import (
	"strings"
	"testing"

	"hornbook/api"
)

const library = `
app([],X,X). app([X|Y],Z,[X|W]) :- app(Y,Z,W).
p(1). p(2). p(3).
first(X) :- p(X), !. first(9).
both(X,Y) :- p(X), (X > 1, ! ; true), p(Y).
q(a). q(f(X)). q(Y).
loop :- loop.
count(N) :- print(N), M is N + 1, count(M).
gone :- fail.
bad(X) :- p(X), X > 1, throw(too(X,_)).
cutcall(X) :- p(X), call(!). cutcall(7).
cutnot(X) :- p(X), \+ \+ !. cutnot(7).
cutcond(X) :- p(X), (! -> true ; true). cutcond(7).
cutthen(X) :- p(X), (true -> ! ; true). cutthen(7).
cutelse(X) :- p(X), (fail -> true ; !). cutelse(7).
cutvar(X) :- G = !, p(X), G. cutvar(7).
cutcatch(X) :- p(X), catch(!,_,true). cutcatch(7).
cutball(X) :- p(X), catch(throw(a),a,!). cutball(7).
`

func expect(t *testing.T, list [][2]string) {
	t.Helper()
	for _, l := range list {
		if got := outcomes(t, filled(t, library), l[0]); got != l[1] {
			t.Errorf("%s: %s, not %s", l[0], got, l[1])
		}
	}
}

// TestExamples: those that the document gives.
func TestExamples(t *testing.T) {
	b := filled(t, library)
	s := search(t, b, "app(X,Y,[a])")
	for k, want := range []api.Outcome{
		{Kind: api.Answer, Term: read(t, "app([],[a],[a])"), Steps: 2},
		{Kind: api.Answer, Term: read(t, "app([a],[],[a])"), Steps: 2},
		{Kind: api.None}, {Kind: api.None}, {Kind: api.None},
	} {
		if got := s.Next(2); showOutcome(got) != showOutcome(want) {
			t.Errorf("%d: %s", k, showOutcome(got))
		}
	}
	o := search(t, b, "catch(X is a,E,print(E))").Next(plenty)
	if o.Kind != api.Answer || o.Text != "not_evaluable(a / 0)" {
		t.Error(showOutcome(o))
	}
}

func TestControl(t *testing.T) {
	expect(t, [][2]string{
		{"true", "true; none"},
		{"fail", "none"},
		{"!", "!; none"},
		{"p(X), p(Y), X > Y", "p(2),p(1),2 > 1; p(3),p(1),3 > 1; p(3),p(2),3 > 2; none"},
		{"p(X), !", "p(1),!; none"},
		{"(X = 1 ; X = 2)", "1 = 1 ; 1 = 2; 2 = 1 ; 2 = 2; none"},
		{"(X = 1, ! ; X = 2)", "1 = 1,! ; 1 = 2; none"},
		{"first(X)", "first(1); none"},
		{"both(X,Y)", "both(1,1); both(1,2); both(1,3); both(2,1); both(2,2); both(2,3); none"},
		{"(p(X) -> p(Y) ; true)", "p(1) -> p(1) ; true; p(1) -> p(2) ; true; p(1) -> p(3) ; true; none"},
		{"(p(4) -> true ; p(Y))", "p(4) -> true ; p(1); p(4) -> true ; p(2); p(4) -> true ; p(3); none"},
		{"(p(X) -> X = 2)", "none"},
		{"(fail -> true)", "none"},
		{"((p(X), X > 1) -> true)", "p(2),2 > 1 -> true; none"},
		{"(print(a) -> print(b) ; print(c)), nl", "<ab\n>(print(a) -> print(b) ; print(c)),nl; none"},
		{"((X = 1 ; X = 2) -> true ; true)", "(1 = 1 ; 1 = 2) -> true ; true; none"},
		{"G = (true -> fail), (G ; true)", "(true -> fail) = (true -> fail),(true -> fail ; true); none"},
		{"\\+ p(4)", "\\+ p(4); none"},
		{"\\+ p(X)", "none"},
		{"\\+ \\+ X = 1", "\\+ \\+ _0 = 1; none"},
		{"\\+ fail, p(X)", "\\+ fail,p(1); \\+ fail,p(2); \\+ fail,p(3); none"},
		{"\\+ X", "ball unbound"},
		{"\\+ 1", "ball not_callable"},
		{"\\+ (fail, 1)", "ball not_callable"},
		{"\\+ (fail, X)", "\\+ (fail,_0); none"},
		{"cutcall(X)", "cutcall(1); cutcall(2); cutcall(3); cutcall(7); none"},
		{"cutnot(X)", "cutnot(1); cutnot(2); cutnot(3); cutnot(7); none"},
		{"cutcond(X)", "cutcond(1); cutcond(2); cutcond(3); cutcond(7); none"},
		{"cutthen(X)", "cutthen(1); none"},
		{"cutelse(X)", "cutelse(1); none"},
		{"cutvar(X)", "cutvar(1); cutvar(2); cutvar(3); cutvar(7); none"},
		{"cutcatch(X)", "cutcatch(1); cutcatch(2); cutcatch(3); cutcatch(7); none"},
		{"cutball(X)", "cutball(1); cutball(2); cutball(3); cutball(7); none"},
		{"findall(X,cutthen(X),L), (X = 5 ; true)", "findall(5,cutthen(5),[1]),(5 = 5 ; true); findall(_0,cutthen(_0),[1]),(_0 = 5 ; true); none"},
	})
}

func TestCall(t *testing.T) {
	expect(t, [][2]string{
		{"X", "ball unbound"},
		{"call(X)", "ball unbound"},
		{"call(1)", "ball not_callable"},
		{"call((fail,1))", "ball not_callable"},
		{"call((fail;a->1))", "ball not_callable"},
		{"call((fail,X))", "none"},
		{"call((X = 1 , X))", "ball not_callable"},
		{"call((X = p(Y), X))", "call((p(1) = p(1),p(1))); call((p(2) = p(2),p(2))); call((p(3) = p(3),p(3))); none"},
		{"call((X = true, X))", "call((true = true,true)); none"},
		{"call((p(X),!))", "call((p(1),!)); none"},
		{"p(X), call(!)", "p(1),call(!); p(2),call(!); p(3),call(!); none"},
		{"G = (p(X), !), (G ; true)", "(p(1),!) = (p(1),!),(p(1),! ; true); (p(_0),!) = (p(_0),!),(p(_0),! ; true); none"},
		{"call(app([a]),[b],X)", "call(app([a]),[b],[a,b]); none"},
		{"call(app,[a],[b],X)", "call(app,[a],[b],[a,b]); none"},
		{"call(call,p,X)", "call(call,p,1); call(call,p,2); call(call,p,3); none"},
		{"call(',',X = 1,p(X))", "call(',',1 = 1,p(1)); none"},
		{"call(',',p(X),!)", "call(',',p(1),!); none"},
		{"call(',',fail,1)", "ball not_callable"},
		{"call(',',fail,X)", "none"},
		{"call(;,fail,print(a))", "<a>call(;,fail,print(a)); none"},
		{"call(;((true -> print(a))),print(b))", "<a>call(;((true -> print(a))),print(b)); none"},
		{"call(X,1)", "ball unbound"},
		{"call(1,X)", "ball not_callable"},
		{"call(f(1),X)", "ball unknown(f / 2)"},
		{"call(a,1,2,3,4,5,6,7)", "ball unknown(a / 7)"},
		{"call(a,1,2,3,4,5,6,7,8)", "ball unknown(call / 9)"},
		{"call", "ball unknown(call / 0)"},
		{"findall(X,(p(X);X=0),L)", "findall(_0,(p(_0) ; _0 = 0),[1,2,3,0]); none"},
	})
	args := strings.Repeat("x,", api.MaxArity-2) + "x"
	expect(t, [][2]string{
		{"call(f(" + args + "),1)", "ball unknown(f / 50)"},
		{"call(f(" + args + "),1,2)", "ball not_callable"},
		{"call(X,1,2), " + "f(" + args + ",1)", "ball unbound"},
	})
}

func TestFindall(t *testing.T) {
	expect(t, [][2]string{
		{"findall(X,p(X),L)", "findall(_0,p(_0),[1,2,3]); none"},
		{"findall(X-Y,p(X),L)", "findall(_0 - _1,p(_0),[1 - _2,2 - _3,3 - _4]); none"},
		{"findall(Y,p(X),[A,B,C]), A = 1, Y = 2", "findall(2,p(_0),[1,_1,_2]),1 = 1,2 = 2; none"},
		{"findall(f(Y,Y,X),q(X),L)", "findall(f(_0,_0,_1),q(_1),[f(_2,_2,a),f(_3,_3,f(_4)),f(_5,_5,_6)]); none"},
		{"findall(X,fail,L)", "findall(_0,fail,[]); none"},
		{"findall(X,p(X),[1,2])", "none"},
		{"findall(X,p(X),[Y|Z])", "findall(_0,p(_0),[1,2,3]); none"},
		{"findall(X,p(X),a)", "none"},
		{"findall(X,(p(X),print(X)),L)", "<123>findall(_0,(p(_0),print(_0)),[1,2,3]); none"},
		{"findall(X,(p(X),!),L)", "findall(_0,(p(_0),!),[1]); none"},
		{"findall(X,G,L)", "ball unbound"},
		{"findall(X,7,L)", "ball not_callable"},
		{"findall(X,bad(X),L)", "ball too(2,_0)"},
		{"catch(findall(X,bad(X),L),too(A,B),true)", "catch(findall(_0,bad(_0),_1),too(2,_2),true); none"},
		{"findall(L,findall(X,p(X),L),K)", "findall(_0,findall(_1,p(_1),_0),[[1,2,3]]); none"},
		{"p(X), findall(Y,(p(Y),Y < X),L)", "p(1),findall(_0,(p(_0),_0 < 1),[]); p(2),findall(_0,(p(_0),_0 < 2),[1]); p(3),findall(_0,(p(_0),_0 < 3),[1,2]); none"},
		{"findall(X,count(0),L)", "<" + manyNumbers(plenty/5) + ">out"},
	})
}

func manyNumbers(n int) string {
	var out strings.Builder
	for k := range n {
		out.WriteString(printNumber(k))
	}
	return out.String()
}

func printNumber(n int) string {
	if n < 10 {
		return string(rune('0' + n))
	}
	return printNumber(n/10) + string(rune('0'+n%10))
}

func TestCatch(t *testing.T) {
	expect(t, [][2]string{
		{"throw(a)", "ball a"},
		{"throw(X)", "ball unbound"},
		{"throw(f(X,Y,X))", "ball f(_0,_1,_0)"},
		{"X = 1, throw(f(X,Y))", "ball f(1,_0)"},
		{"catch(throw(a),X,true)", "catch(throw(a),a,true); none"},
		{"catch(throw(a),b,true)", "ball a"},
		{"catch(throw(f(X)),f(Y),true), X = 1", "catch(throw(f(1)),f(_0),true),1 = 1; none"},
		{"catch(p(X),_,true)", "catch(p(1),_0,true); catch(p(2),_0,true); catch(p(3),_0,true); none"},
		{"catch(p(X),_,true), X > 1, throw(X)", "ball 2"},
		{"catch((X = 1, throw(a)),a,true)", "catch((_0 = 1,throw(a)),a,true); none"},
		{"Y = 5, catch((X = 1, throw(f(X,Y,Z))),f(A,B,C),true)", "5 = 5,catch((_0 = 1,throw(f(_0,5,_1))),f(1,5,_2),true); none"},
		{"catch((p(X), X > 1, throw(X)),Y,p(Y))", "catch((p(_0),_0 > 1,throw(_0)),2,p(2)); none"},
		{"catch((p(X), X > 1, throw(X)),Y,p(Z))", "catch((p(_0),_0 > 1,throw(_0)),2,p(1)); catch((p(_0),_0 > 1,throw(_0)),2,p(2)); catch((p(_0),_0 > 1,throw(_0)),2,p(3)); none"},
		{"p(X), catch((p(Y), throw(b)),b,true)", "p(1),catch((p(_0),throw(b)),b,true); p(2),catch((p(_0),throw(b)),b,true); p(3),catch((p(_0),throw(b)),b,true); none"},
		{"catch(throw(a),a,throw(b))", "ball b"},
		{"catch(catch(throw(a),a,throw(b)),b,print(c))", "<c>catch(catch(throw(a),a,throw(b)),b,print(c)); none"},
		{"catch(catch(throw(f(1,2)),f(X,X),true),f(A,B),true)", "catch(catch(throw(f(1,2)),f(_0,_0),true),f(1,2),true); none"},
		{"catch(catch(throw(f(Z,Z,Y)),f(1,2,X),true),f(A,B,C),true)", "catch(catch(throw(f(_0,_0,_1)),f(1,2,_2),true),f(_3,_3,_4),true); none"},
		{"catch(X,E,true)", "catch(_0,unbound,true); none"},
		{"catch(1,E,true)", "catch(1,not_callable,true); none"},
		{"catch((fail,1),E,true)", "catch((fail,1),not_callable,true); none"},
		{"catch(1,b,true)", "ball not_callable"},
		{"catch(throw(a),a,X)", "ball unbound"},
		{"catch(throw(a),a,1)", "ball not_callable"},
		{"catch(throw(a),a,(print(b),1))", "ball not_callable"},
		{"catch(throw(print(a)),X,X)", "<a>catch(throw(print(a)),print(a),print(a)); none"},
		{"catch(throw(1),X,X)", "ball not_callable"},
		{"catch(catch(throw(a),a,1),E,true)", "catch(catch(throw(a),a,1),not_callable,true); none"},
		{"catch(catch(throw(a),X,Y),E,true)", "catch(catch(throw(a),_0,_1),unbound,true); none"},
		{"catch(throw(a),a,(X = 1 ; X = 2))", "catch(throw(a),a,(1 = 1 ; 1 = 2)); catch(throw(a),a,(2 = 1 ; 2 = 2)); none"},
		{"(catch(throw(a),a,(p(X),!)) ; X = 7)", "catch(throw(a),a,(p(1),!)) ; 1 = 7; catch(throw(a),a,(p(7),!)) ; 7 = 7; none"},
		{"(catch((p(X),!),_,true) ; X = 7)", "catch((p(1),!),_0,true) ; 1 = 7; catch((p(7),!),_0,true) ; 7 = 7; none"},
		{"catch(\\+ throw(a),a,print(b))", "<b>catch(\\+ throw(a),a,print(b)); none"},
		{"catch((throw(a) -> true ; true),a,print(b))", "<b>catch((throw(a) -> true ; true),a,print(b)); none"},
		{"\\+ catch(throw(a),b,true)", "ball a"},
		{"catch(\\+ catch((X = 1, throw(X)),2,true),Y,true)", "catch(\\+ catch((_0 = 1,throw(_0)),2,true),1,true); none"},
		{"\\+ catch(throw(a),a,true)", "none"},
		{"\\+ catch(throw(a),a,fail)", "\\+ catch(throw(a),a,fail); none"},
		{"catch(true,_,true), throw(a)", "ball a"},
		{"catch((true ; throw(b)),b,print(c)), print(d), fail", "<dcd>none"},
		{"catch((p(X), X > 2, throw(X) ; true),3,fail)", "none"},
		{"catch(nope,unknown(N / K),true)", "catch(nope,unknown(nope / 0),true); none"},
		{"catch(loop,_,true)", "out"},
		{"catch(throw(a),a,loop)", "out"},
	})
}

func TestUnifying(t *testing.T) {
	expect(t, [][2]string{
		{"f(X,b) = f(a,Y)", "f(a,b) = f(a,b); none"},
		{"f(X,b) = f(a,X)", "none"},
		{"X = f(X)", "none"},
		{"f(X,Y) = f(g(Y),g(X))", "none"},
		{"X = Y, Y = f(X)", "none"},
		{"X = f(Y), Y = g(X)", "none"},
		{"X = f(Y), Y = g(Z), Z = 1", "f(g(1)) = f(g(1)),g(1) = g(1),1 = 1; none"},
		{"f(X,Y,Z) = f(Y,Z,a)", "f(a,a,a) = f(a,a,a); none"},
		{"X = Y", "_0 = _0; none"},
		{"f = f(X)", "none"},
		{"1 = 1, a = a, [] = '[]'", "1 = 1,a = a,[] = []; none"},
		{"1 = a", "none"},
		{"0 = '0'", "none"},
		{"f(a) = g(a)", "none"},
		{"f(a) = f(a,a)", "none"},
		{"f(X) \\= f(a)", "none"},
		{"f(X,X) \\= f(a,b)", "f(_0,_0) \\= f(a,b); none"},
		{"X \\= f(X)", "_0 \\= f(_0); none"},
		{"a \\= b, X = 1", "a \\= b,1 = 1; none"},
		{"\\+ X \\= 1, X = 2", "\\+ 2 \\= 1,2 = 2; none"},
		{"X == X", "_0 == _0; none"},
		{"X == Y", "none"},
		{"X = Y, X == Y", "_0 = _0,_0 == _0; none"},
		{"f(X,a) == f(X,a)", "f(_0,a) == f(_0,a); none"},
		{"f(X,a) == f(X,b)", "none"},
		{"1 == 1, a == a", "1 == 1,a == a; none"},
		{"X \\== Y", "_0 \\== _1; none"},
		{"X \\== X", "none"},
		{"f(a) \\== f(b)", "f(a) \\== f(b); none"},
		{"copy_term(f(X,Y,X),Z)", "copy_term(f(_0,_1,_0),f(_2,_3,_2)); none"},
		{"X = 1, copy_term(f(X,Y),Z), Y = 2", "1 = 1,copy_term(f(1,2),f(1,_0)),2 = 2; none"},
		{"copy_term(X,a)", "copy_term(_0,a); none"},
		{"copy_term(a,b)", "none"},
		{"copy_term(f(X),f(g(X)))", "copy_term(f(_0),f(g(_0))); none"},
	})
}

func TestOrdering(t *testing.T) {
	expect(t, [][2]string{
		{"1 @< 2, 2 @> 1, a @< b, 7 @< a, z @< f(a), f(b) @< f(a,a), f(a) @< g(a), f(a,b) @< f(b,a)", "1 @< 2,2 @> 1,a @< b,7 @< a,z @< f(a),f(b) @< f(a,a),f(a) @< g(a),f(a,b) @< f(b,a); none"},
		{"1 @=< 1, 1 @>= 1, a @=< a, f(X) @>= f(X)", "1 @=< 1,1 @>= 1,a @=< a,f(_0) @>= f(_0); none"},
		{"1 @< 1", "none"}, {"1 @> 1", "none"}, {"2 @=< 1", "none"}, {"1 @>= 2", "none"}, {"b @< a", "none"}, {"a @> b", "none"},
		{"-1 @< 0", "-1 @< 0; none"},
		{"X @< 1", "_0 @< 1; none"}, {"1 @> X", "1 @> _0; none"}, {"f(X) @> 1", "f(_0) @> 1; none"},
		{"X @< Y", "ball unbound"}, {"X @> Y", "ball unbound"}, {"X @=< Y", "ball unbound"}, {"X @>= Y", "ball unbound"},
		{"X @=< X", "_0 @=< _0; none"},
		{"X = Y, X @>= Y", "_0 = _0,_0 @>= _0; none"},
		{"f(X,a) @< f(X,b)", "f(_0,a) @< f(_0,b); none"},
		{"f(X,a) @< f(Y,b)", "ball unbound"},
		{"f(a,X) @< f(b,Y)", "f(a,_0) @< f(b,_1); none"},
		{"f(X) @< g(Y)", "f(_0) @< g(_1); none"},
		{"f(g(X),1) @< f(g(Y),2)", "ball unbound"},
		{"compare(O,1,a)", "compare(<,1,a); none"},
		{"compare(O,a,1)", "compare(>,a,1); none"},
		{"compare(O,f(X),f(X))", "compare(=,f(_0),f(_0)); none"},
		{"compare(O,X,Y)", "ball unbound"},
		{"compare(<,1,2)", "compare(<,1,2); none"},
		{"compare(<,2,1)", "none"},
		{"compare(1,2,1)", "none"},
		{"compare(1,X,Y)", "ball unbound"},
	})
}

func TestKinds(t *testing.T) {
	is := map[string]string{
		"var": "X", "nonvar": "a 1 f(X) []", "atom": "a []", "integer": "1 -1", "atomic": "a 1 [] -1",
		"compound": "f(X) [a] f(a)", "callable": "a f(X) [] [a] f(a)", "ground": "a 1 [] -1 [a] f(a)",
	}
	for name, list := range is {
		for _, x := range []string{"X", "a", "1", "-1", "[]", "[a]", "f(X)", "f(a)"} {
			want := "none"
			if strings.Contains(" "+list+" ", " "+x+" ") || name == "nonvar" && x != "X" {
				want = strings.ReplaceAll(name+"("+x+"); none", "X", "_0")
			}
			if got := outcomes(t, filled(t, library), name+"("+x+")"); got != want {
				t.Errorf("%s of %s: %s, not %s", name, x, got, want)
			}
			if got := outcomes(t, filled(t, library), "Z = "+x+", "+name+"(Z), fail ; true"); !strings.HasSuffix(got, " ; true; none") {
				t.Errorf("%s of what is %s: %s", name, x, got)
			}
		}
	}
	expect(t, [][2]string{{"X = f(Y), Y = 1, ground(X), integer(Y)", "f(1) = f(1),1 = 1,ground(f(1)),integer(1); none"}})
}
