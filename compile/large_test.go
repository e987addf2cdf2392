package compile_test

import (
	"runtime"
	"strconv"
	"testing"

	"hornbook/api"
	"hornbook/compile"
)

const works = `
app([],X,X). app([X|Y],Z,[X|W]) :- app(Y,Z,W).
rev([],[]). rev([X|Y],Z) :- rev(Y,W), app(W,[X],Z).
upto(0,[]). upto(N,[N|L]) :- N > 0, M is N - 1, upto(M,L).
down(0) :- !. down(N) :- M is N - 1, down(M).
downif(N) :- (N > 0 -> M is N - 1, downif(M) ; true).
downnot(N) :- \+ N = 0, M is N - 1, downnot(M). downnot(0).
downeither(N) :- (N = 0 ; N > 0, M is N - 1, downeither(M)).
downlast(N) :- N > 0, !, M is N - 1, downlast(M). downlast(0).
eat([_|X]) :- eat(X). eat([]).
eatall(X) :- X = [_|_], (X = [_|Y] -> eatall(Y)). eatall([]).
mixed(f(_),_). mixed([],_). mixed([_|X],Y) :- mixed(X,Y). mixed(g(_),_).
others(X,Y) :- X = [_|Z], Y = a, !, others(Z,Y). others([],_). others(f(_),_).
bit(0). bit(1).
bits(0). bits(N) :- N > 0, M is N - 1, bit(_), bits(M).
deep(N,K) :- (N > 0 -> M is N - 1, deep(M,K) ; bits(K)).
deeper(N,K) :- N > 0, M is N - 1, deeper(M,K). deeper(0,K) :- bits(K).
deepest(N,K) :- (N > 0, M is N - 1, (fail ; deepest(M,K)) ; N = 0, (true -> bits(K))).
two(a). two(b).
fib(0,0). fib(1,1). fib(N,F) :- N > 1, A is N - 1, B is N - 2, fib(A,X), fib(B,Y), F is X + Y.
queens(N,Q) :- upto(N,L), place(L,[],Q).
place([],Q,Q). place(L,S,Q) :- take(X,L,R), \+ hit(X,1,S), place(R,[X|S],Q).
take(X,[X|Y],Y). take(X,[Y|Z],[Y|W]) :- take(X,Z,W).
hit(X,D,[Y|_]) :- (X =:= Y + D -> true ; X =:= Y - D). hit(X,D,[_|Y]) :- E is D + 1, hit(X,E,Y).
loop :- loop. spin(X) :- (two(X), ! ; true), \+ X = c, spin(Y), print(Y).
`

// TestWorks: longer ways, within the steps that there may be.
func TestWorks(t *testing.T) {
	t.Parallel()
	l := program(t, works)
	for _, query := range []string{
		"queens(6,Q)", "fib(13,F)", "upto(100,L), rev(L,M), rev(M,N), L == N", "upto(60,L), app(X,Y,L), eat(X), eatall(Y), print(X)", "downif(3000)", "downnot(3000)", "downeither(500)", "downlast(3000)", "down(3000)", "upto(500,L), mixed(L,X)", "upto(500,L), others(L,X)",
		"loop", "spin(X)",
	} {
		held(t, l, read(t, query), 100000, 200)
	}
}

// TestAnswersComeBackAtOnce: of an answer that came by many calls the next one does not take as many steps as these were.
func TestAnswersComeBackAtOnce(t *testing.T) {
	t.Parallel()
	l := program(t, works)
	for _, name := range []string{"deep", "deeper", "deepest"} {
		query := read(t, name+"(20000,13), fail")
		held(t, l, query, 1000000, 2)
		m := started(t, l, query)
		if o := m.Next(1500000); o.Kind != api.None {
			t.Errorf("%s: %s in %d steps", name, told(o), o.Steps)
		}
	}
}

// inUse is how much memory is in use when all that can be let go is gone.
func inUse() uint64 {
	runtime.GC()
	runtime.GC()
	var m runtime.MemStats
	runtime.ReadMemStats(&m)
	return m.HeapAlloc
}

// TestLittleIsKept: a program that goes on and on leaves no choices and no calls behind it that a search would not.
// It is no parallel test, since it asks how much memory is in use.
func TestLittleIsKept(t *testing.T) {
	l := program(t, works)
	var numbers []api.Term
	for k := range 30000 {
		numbers = append(numbers, i(int64(k)))
	}
	list := listOf(numbers)
	for _, goal := range []api.Term{
		read(t, "down(200000)"), read(t, "downif(200000)"), read(t, "downlast(200000)"),
		c("eat", list), c("eatall", list), c("mixed", list, v(2)), c("others", list, v(2)),
	} {
		query := c(",", c("two", v(1)), goal)
		m := started(t, l, query)
		before := inUse()
		if o := m.Next(10000000); o.Kind != api.Answer {
			t.Error(goal.Name, o.Kind, o.Steps)
		}
		// The list itself is there too.
		if now := inUse(); now > before+2<<20 {
			t.Errorf("%s: %d bytes in use, %d ahead of that", goal.Name, now, before)
		}
		if o := m.Next(0); o.Kind != api.Out {
			t.Error(goal.Name, o.Kind)
		}
	}
}

// TestCompilingLong: many clauses, and bodies of many goals, are compiled or refused in time that grows as they do.
func TestCompilingLong(t *testing.T) {
	t.Parallel()
	var l []api.Clause
	for k := range 200000 {
		l = append(l, made(t, c("p"+strconv.Itoa(k%70000), i(int64(k)), v(0))))
	}
	if _, err := compile.Compile(l, a("a")); err != api.ErrLarge {
		t.Error(err)
	}
	for _, by := range []func(api.Term) api.Term{
		func(t api.Term) api.Term { return c("\\+", t) }, func(t api.Term) api.Term { return c("->", t, a("!")) }, func(t api.Term) api.Term { return c(";", c("->", a("!"), t), a("!")) },
	} {
		if _, err := compile.Compile(nil, nested(a("!"), 60000, by)); err != api.OK && err != api.ErrLarge {
			t.Error(err)
		}
	}
	// Nearly as much as there may be.
	l = nil
	for range 24900 {
		l = append(l, made(t, c("p", v(0), v(0))))
	}
	held(t, l, read(t, "p(a,X), p(X,a)"), 40000, 5)
	m := started(t, l, read(t, "p(X,Y), X = f(Y), print(X)"))
	if o := m.Next(1000000); o.Kind != api.None {
		t.Error(told(o))
	}
}
