package solve_test

import (
	"runtime"
	"strconv"
	"strings"
	"testing"

	"hornbook/api"
	"hornbook/base"
	"hornbook/solve"
)

const works = `
app([],X,X). app([X|Y],Z,[X|W]) :- app(Y,Z,W).
rev([],[]). rev([X|Y],Z) :- rev(Y,W), app(W,[X],Z).
down(0). down(N) :- N > 0, M is N - 1, down(M).
downif(N) :- (N > 0 -> M is N - 1, downif(M) ; true).
downall(0). downall(N) :- N > 0, \+ N = a, findall(X,X = N,L), catch(Y = L,_,true), (Y = b ; true), !, M is N - 1, downall(M).
downbad(0). downbad(N) :- N > 0, catch((X = N, throw(f(X))),f(Y),true), M is Y - 1, downbad(M).
downopen(0,_). downopen(N,T) :- N > 0, (T = f(_,U) -> true ; true), M is N - 1, downopen(M,U).
len([],0). len([_|T],N) :- len(T,M), N is M + 1.
upto(0,[]) :- !. upto(N,[N|T]) :- M is N - 1, upto(M,T).
holes(0,[]) :- !. holes(N,[X|T]) :- M is N - 1, holes(M,T).
nested(0,T,T). nested(N,T,R) :- N > 0, M is N - 1, nested(M,f(T),R).
fifty(0,T,T). fifty(N,T,R) :- N > 0, M is N - 1, fifty(M,FIFTY,R).
bothfifty(0,T,T). bothfifty(N,T,R) :- N > 0, M is N - 1, bothfifty(M,BOTH,R).
leftfifty(0,T,T). leftfifty(N,T,R) :- N > 0, M is N - 1, leftfifty(M,LEFT,R).
downlast(N) :- N > 0, M is N - 1, downlast(M). downlast(0).
downcatch(0). downcatch(N) :- N > 0, catch(true,_,true), M is N - 1, downcatch(M).
left(0,T,T). left(N,T,R) :- N > 0, M is N - 1, left(M,f(T,X),R).
twice(0,T,T). twice(N,T,R) :- N > 0, M is N - 1, twice(M,f(T,T),R).
sum(0,T,T). sum(N,T,R) :- N > 0, M is N - 1, sum(M,T + T,R).
twin(0,(A,A),A). twin(N,(A,A),G) :- N > 0, M is N - 1, twin(M,A,G).
within(0). within(N) :- (M is N - 1, within(M) -> true ; true).
without(0). without(N) :- \+ \+ (M is N - 1, without(M)).
finding(0). finding(N) :- N > 0, M is N - 1, findall(x,finding(M),[x]).
catching(0). catching(N) :- M is N - 1, catch(catching(M),_,true).
throwing(0) :- throw(ball). throwing(N) :- M is N - 1, catch(throwing(M),other,true).
lay(0) :- !. lay(N) :- assertz(fact(N)), retract(fact(N)), M is N - 1, lay(M).
last(0,X,X). last(N,X,Z) :- N > 0, Y = f(X,_), M is N - 1, last(M,Y,Z).
chain(0,_). chain(N,X) :- N > 0, X = Y, M is N - 1, chain(M,Y).
pairs([_]) :- !. pairs([X,Y|Z]) :- pairs([Y|Z]), X = Y.
grow(0,_). grow(N,T) :- N > 0, T = [N|U], M is N - 1, grow(M,U).
`

// working is these, with terms written out that are nested fifty times.
func working() string {
	fifty := strings.ReplaceAll(works, "FIFTY", strings.Repeat("f(", 50)+"T"+strings.Repeat(")", 50))
	fifty = strings.ReplaceAll(fifty, "BOTH", strings.Repeat("(", 50)+"T"+strings.Repeat(",true)", 50))
	return strings.ReplaceAll(fifty, "LEFT", strings.Repeat("g(", 50)+"T"+strings.Repeat(",X)", 50))
}

// enough steps for all that comes to an end here.
const enough = 1 << 24

// once gives the first outcome of a query.
func once(t *testing.T, query string) api.Outcome {
	t.Helper()
	return search(t, filled(t, working()), query).Next(enough)
}

// TestLong: much is done in time that does not grow faster than it.
func TestLong(t *testing.T) {
	t.Parallel()
	for _, query := range []string{
		"down(100000)", "downif(100000)", "downall(50000)", "downbad(50000)", "upto(100000,L), len(L,100000)",
		"upto(300,L), rev(L,M), rev(M,L)", "between(1,300000,X), X >= 100000", "findall(X,between(1,100000,X),L), length(L,100000), sort(L,L)",
		"lay(50000)", "last(50000,a,Z), Z = f(_,b)", "chain(50000,X), X = a", "grow(100000,T), T = [_|_]",
		"holes(20000,L), pairs(L), L = [X|_], L = [Y|_], copy_term(L,M), length(M,20000), X = 1, ground(L)",
		"downopen(50000,T)", "holes(60000,L), copy_term(L,M), L = M, L == M, \\+ L \\= M, \\+ ground(L)",
	} {
		if o := once(t, query); o.Kind != api.Answer {
			t.Error(query, o.Kind, o.Steps, show(o.Ball))
		}
	}
}

// TestMuchIsUndone: what was bound behind a choice is free again, however much it was, whatever choices there were between.
func TestMuchIsUndone(t *testing.T) {
	free, bound := "", ""
	for k := range 300 {
		free += ",_" + strconv.Itoa(k)
		bound += "," + strconv.Itoa(300-k)
	}
	free, bound = "["+free[1:]+"]", "["+bound[1:]+"]"
	for _, way := range []string{
		"_ = x ; true", "upto(300,L), fail ; true", "(upto(300,L) -> fail ; true) ; true", "\\+ upto(300,L) ; true", "\\+ \\+ upto(300,L)", "findall(L,upto(300,L),[M]), M == " + bound,
		"catch((upto(300,L), throw(a)),a,true)", "(true ; true), (upto(300,L), (true ; true), fail ; true)", "catch((upto(300,L) -> throw(a) ; true),a,true)", "catch((true ; true),_,true), \\+ L \\= " + bound, "(upto(300,L) ; true), \\+ L == " + bound,
	} {
		o := once(t, "holes(300,L), ("+way+"), print(L), fail ; true")
		if o.Kind != api.Answer || !strings.HasPrefix(o.Text, free) || o.Text != strings.Repeat(free, len(o.Text)/len(free)) {
			t.Errorf("%s: %s %s", way, showOutcome(o)[:6], o.Text)
		}
	}
}

// TestDeep: what is nested in what, goals and searches in one another and parts in terms, far more than is handed in.
func TestDeep(t *testing.T) {
	t.Parallel()
	for _, query := range []string{
		"within(70000)", "without(70000)", "finding(70000)", "catching(70000)", "catch(throwing(70000),ball,true)",
		"nested(70000,a,X), copy_term(X,Y), X == Y, X = Y, ground(X), compare(=,X,Y), assertz(k(X)), k(Z), Z = X, retract(k(Y))",
		"left(70000,a,X), copy_term(X,Y), X = Y, \\+ ground(X), X = f(Z,_), \\+ Z = X, assertz(k(X)), k(W), findall(W,W = X,[V])",
		"nested(70000,1,X), catch(Y is X,not_evaluable(f / 1),true)",
		"nested(70000,a,X), nested(69999,b,Y), \\+ X = Y, X \\== Y, Y @< X",
		"nested(70000,a,X), catch(throw(X),Y,true), X == Y",
	} {
		if o := once(t, query); o.Kind != api.Answer {
			t.Error(query, o.Kind, o.Steps, show(o.Ball))
		}
	}
	// No call may lie in another for each part that lies in another.
	for _, query := range []string{
		"fifty(28000,a,X), print(X), assertz(k(X)), k(Y)",
		"leftfifty(28000,a,X), assertz(k(X)), k(Y)",
		"bothfifty(4000,true,X), assertz((l :- X)), l",
	} {
		if o := once(t, "\\+ \\+ ("+query+")"); o.Kind != api.Answer {
			t.Error(query, o.Kind, o.Steps, show(o.Ball))
		}
	}
	o := once(t, "nested(70000,a,X), print(X), throw(X)")
	if len(o.Text) != 3*70000+1 {
		t.Error(len(o.Text))
	}
	depth := 0
	for x := o.Ball; isOf(x, "f", 1); x = x.Args[0] {
		depth++
	}
	if depth != 70000 {
		t.Error(depth)
	}
	o = once(t, "upto(70000,L)")
	count := 0
	for x := o.Term.Args[1]; isOf(x, ".", 2) && x.Args[0].N == int64(70000-count); x = x.Args[1] {
		count++
	}
	if count != 70000 {
		t.Error(count)
	}
}

// TestWhatCannotBeWrittenOut: terms that, written out, had more parts than any memory: each stands in another twice.
func TestWhatCannotBeWrittenOut(t *testing.T) {
	for query, want := range map[string]int{
		"twice(100,a,X), twice(100,a,Y), X = Y, X == Y, ground(X), \\+ X \\= Y, compare(=,X,Y), copy_term(X,Z), Z == X, fail ; true":                                                                                api.Answer,
		"twice(100,A,X), twice(100,B,Y), \\+ X == Y, X = Y, A == B, X == Y, \\+ ground(X), copy_term(X,Z), Z = X, A = 1, ground(f(X,Y,Z)), findall(X,true,[W]), W = X, catch(throw(X),V,true), V == Y, fail ; true": api.Answer,
		"twice(100,a,X), twice(100,b,Y), \\+ X = Y, X \\= Y, X @< Y, X \\== Y, sort([Y,X,Y],[U,V]), U == X, fail ; true":                                                                                            api.Answer,
		"twice(100,A,X), A = f(X) ; true":                                                                                             api.Answer,
		"twice(100,A,X), twice(100,B,Y), f(A,B) = f(Y,X) ; true":                                                                      api.Answer,
		"twice(100,A,X), twice(100,B,Y), catch(X @< Y,unbound,fail)":                                                                  api.None,
		"sum(62,1,X), Y is X - 1, Y > 0, Z is Y + X, catch(W is Z + 1,overflow,true), X =:= Y + 1, fail ; true":                       api.Answer,
		"sum(100,0,X), Y is X, Y =:= 0, X =:= 0, fail ; true":                                                                         api.Answer,
		"sum(100,a,X), catch(Y is X,not_evaluable(a / 0),true), fail ; true":                                                          api.Answer,
		"twin(60,G,fail), \\+ G, fail ; true":                                                                                         api.Answer,
		"twin(60,G,1), catch(G,not_callable,fail)":                                                                                    api.None,
		"twin(60,G,H), catch(G,unbound,fail)":                                                                                         api.None,
		"twice(100,A,X), X = f(Y,Z), functor(X,f,2), arg(1,X,Y), X =.. [_,Y,Z], length([X,Y],N), (X = X -> true ; true), fail ; true": api.Answer,
	} {
		s := search(t, filled(t, working()), query)
		if o := s.Next(enough); o.Kind != want {
			t.Error(query, o.Kind, o.Steps, show(o.Ball))
		}
	}
}

// TestDeepQueries: as many parts nested in one another as the document bounds.
func TestDeepQueries(t *testing.T) {
	t.Parallel()
	const n = 1<<16 - 4
	deep := func(core api.Term, around func(t api.Term) api.Term) api.Term {
		for range n {
			core = around(core)
		}
		return core
	}
	b := base.New()
	for k, l := range []struct {
		query api.Term
		kind  int
		steps int
	}{
		{deep(a("true"), func(x api.Term) api.Term { return c(",", a("true"), x) }), api.Answer, 2*n + 1},
		{deep(a("true"), func(x api.Term) api.Term { return c(",", x, a("true")) }), api.Answer, 2*n + 1},
		{deep(a("fail"), func(x api.Term) api.Term { return c(";", x, a("fail")) }), api.None, 2*n + 1},
		{deep(a("true"), func(x api.Term) api.Term { return c(";", a("fail"), x) }), api.Answer, 2*n + 1},
		{deep(a("true"), func(x api.Term) api.Term { return c("->", x, a("true")) }), api.Answer, 2*n + 1},
		{deep(a("fail"), func(x api.Term) api.Term { return c(";", c("->", a("true"), a("fail")), x) }), api.None, 3},
		{deep(a("true"), func(x api.Term) api.Term { return c("\\+", x) }), api.Answer, n + 1},
		{deep(a("true"), func(x api.Term) api.Term { return c("call", x) }), api.Answer, n + 1},
		{deep(a("true"), func(x api.Term) api.Term { return c("findall", i(1), x, list(i(1))) }), api.Answer, n + 1},
		{deep(a("true"), func(x api.Term) api.Term { return c("catch", x, v(1), a("true")) }), api.Answer, n + 1},
		{deep(c("throw", a("a")), func(x api.Term) api.Term { return c("catch", x, a("b"), a("true")) }), api.Thrown, n + 1},
		{c("=", deep(v(0), func(x api.Term) api.Term { return c("f", x) }), deep(v(1), func(x api.Term) api.Term { return c("f", x) })), api.Answer, 1},
		{c("is", v(0), deep(i(1), func(x api.Term) api.Term { return c("+", x, i(1)) })), api.Answer, 1},
	} {
		s, err := solve.New(b, l.query)
		if err != api.OK {
			t.Fatal(k, err)
		}
		if o := s.Next(enough); o.Kind != l.kind || o.Steps != l.steps {
			t.Error(k, o.Kind, o.Steps, show(o.Ball))
		}
	}
}

// TestManyClauses: of a predicate with very many, those that the first Arg lets through are found at once.
func TestManyClauses(t *testing.T) {
	b := filled(t, working()+"each(0). each(N) :- N > 0, much(N,X), M is N - 1, each(M). all(N) :- much(_,N), fail. all(_).")
	for k := range 50000 {
		b.Add(api.Clause{Head: c("much", i(int64(k+1)), a("x"+strconv.Itoa(k))), Body: a("true")}, false)
	}
	for _, query := range []string{"each(50000)", "all(x)", "all(N)", "much(50000,X)", "findall(X,much(X,_),L), length(L,50000)", "much(N,X), retract(much(N,X)), fail ; true", "\\+ much(_,_)"} {
		if o := search(t, b, query).Next(enough); o.Kind != api.Answer {
			t.Error(query, o.Kind, o.Steps, show(o.Ball))
		}
	}
}

// inUse is how much memory is in use when all that can be let go is gone.
func inUse() uint64 {
	runtime.GC()
	runtime.GC()
	var m runtime.MemStats
	runtime.ReadMemStats(&m)
	return m.HeapAlloc
}

// TestWhatIsDoneIsLetGo: a search keeps nothing behind its last outcome.
func TestWhatIsDoneIsLetGo(t *testing.T) {
	for query, want := range map[string]int{
		"upto(100000,L), fail": api.None, "upto(100000,L), throw(a)": api.Thrown, "upto(100000,L), p(X), down(1000000)": api.Out, "\\+ \\+ (upto(100000,L), p(X))": api.Answer, "upto(100000,L)": api.Answer,
	} {
		b := filled(t, working()+"p(f(_,_)). p(g).")
		before := inUse()
		s := search(t, b, query)
		if kind := s.Next(1000000).Kind; kind != want {
			t.Error(query, kind)
		}
		if now := inUse(); now > before+1<<20 {
			t.Errorf("%s: %d bytes in use, %d ahead of that", query, now, before)
		}
		runtime.KeepAlive(s)
	}
}

// TestAnswersKeepLittle: what is in use at an answer, with choices left, is what the search can come back to.
func TestAnswersKeepLittle(t *testing.T) {
	for _, query := range []string{
		"(true ; true), down(100000)", "(true ; true), downif(100000)", "(true ; true), downcatch(100000)", "(true ; true), downlast(100000)", "(true ; true), downall(60000)", "(true ; true), downbad(60000)",
		"(true ; true), between(1,300000,X), X >= 99999", "(true ; true), catch(down(100000),_,true)", "(true ; true), \\+ \\+ upto(100000,L)",
		"(true ; true), \\+ \\+ findall(L,upto(100000,L),[_]), !, (true ; true)", "(true ; true), (upto(100000,L) -> true ; true), L = [_|_], fail ; true ; true",
		"(true ; true), \\+ \\+ downopen(100000,f(_,_))", "p(T), downopen(100000,T), fail ; true ; true",
	} {
		b := filled(t, working()+"p(f(_,_)). p(g).")
		before := inUse()
		s := search(t, b, query)
		if o := s.Next(enough); o.Kind != api.Answer {
			t.Error(query, o.Kind, o.Steps, show(o.Ball))
		}
		if now := inUse(); now > before+2<<20 {
			t.Errorf("%s: %d bytes in use, %d ahead of that", query, now, before)
		}
		if o := s.Next(0); o.Kind != api.Out && o.Kind != api.None {
			t.Error(query, o.Kind)
		}
	}
}
