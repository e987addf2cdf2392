package model_test

import (
	"slices"
	"strconv"
	"testing"

	"hornbook/api"
	"hornbook/model"
)

// most parts may be nested in one another, by the document.
const most = 1 << 16

// nested is core with around about it, so often.
func nested(n int, core api.Term, around func(t api.Term) api.Term) api.Term {
	t := core
	for range n {
		t = around(t)
	}
	return t
}

func two(name string, x, y int) api.Term { return c(name, i(int64(x)), i(int64(y))) }

// path has so many edges, one behind the other, from 0 on.
func path(n int) []api.Clause {
	var l []api.Clause
	for k := range n {
		// In an order of their own, so that none is found by its place.
		at := k * 7919 % n
		l = append(l, fact(two("e", at, at+1)))
	}
	return l
}

// some is the model of clauses, which must have so many facts.
func some(t *testing.T, want int, l []api.Clause) []api.Term {
	t.Helper()
	got, err := model.Model(l)
	if err != api.OK || len(got) != want {
		t.Fatal(len(got), err)
	}
	return got
}

func TestDeepBodies(t *testing.T) {
	for name, around := range map[string]func(t api.Term) api.Term{
		"right":   func(x api.Term) api.Term { return c(",", c("p", v(0)), x) },
		"left":    func(x api.Term) api.Term { return c(",", x, c("p", v(0))) },
		"both":    func(x api.Term) api.Term { return c(",", a("true"), c(",", x, c("p", v(0)))) },
		"negated": func(x api.Term) api.Term { return c(",", not(c("q", v(0))), x) },
	} {
		n := most - 4
		if name == "both" {
			n /= 2
		}
		l := []api.Clause{rule(c("h", v(0)), nested(n, c("p", v(0)), around)), fact(c("p", a("a"))), fact(c("p", a("b")))}
		some(t, 4, l)
		// The least fault is found, however deep it is.
		for want, core := range map[api.Errno]api.Term{api.ErrKind: c("p", c("f", v(0))), api.ErrSafe: c(",", c("p", v(0)), not(c("p", v(1)))), api.ErrTerm: {}, api.ErrLevel: c(",", c("p", v(0)), not(c("h", v(0)))), api.ErrClause: i(3)} {
			l[0].Body = nested(n, core, around)
			if got, err := model.Model(l); err != want || got != nil {
				t.Error(name, len(got), err)
			}
		}
	}
}

// TestManyVariables: as many goals as may be nested, each with variables of its own, on which the next one leans.
func TestManyVariables(t *testing.T) {
	const n = most - 8
	goal := func(k int) api.Term { return c("e", v(int64(k)), v(int64(k+1))) }
	var goals []api.Term
	for k := range n {
		goals = append(goals, goal(k))
	}
	l := []api.Clause{rule(c("h", v(0)), joined(goals...)), fact(two("e", 0, 1)), fact(two("e", 1, 0)), fact(two("e", 0, 0)), fact(two("e", 2, 3)), fact(two("e", 3, 2)), fact(two("e", 4, 4)), fact(two("e", 5, 6))}
	some(t, 7+5, l)
	// There are very many ways to the last goal, and none through it.
	goals = append(goals, c("e", v(n), i(7)))
	l[0].Body = joined(goals...)
	some(t, 7, l)
	goals[n] = not(c("e", v(n), v(n)))
	l[0].Body = joined(goals...)
	some(t, 7+4, l)
	// Each goal has a variable that no other has.
	for k := range n {
		goals[k] = c("e", v(0), v(int64(k+1)))
	}
	l[0].Body = joined(goals[:n]...)
	some(t, 7+6, l)
	for k := range n {
		goals[k] = goal(2 * k)
	}
	l[0] = rule(c("h", v(0)), joined(goals[:n/2]...))
	some(t, 7+6, l)
	// The head asks for the first and the last of them.
	l[0] = made(t, c("h", v(0), v(20)), slices.Collect(func(yield func(api.Term) bool) {
		for k := 0; k < 20 && yield(goal(k)); k++ {
		}
	})...)
	some(t, 7+7, l)
}

// TestManyGoalsThatGrow: a rule whose goals lean on its own head, each of another predicate.
func TestManyGoalsThatGrow(t *testing.T) {
	for _, n := range []int{2, 15, 16, 17, 18, 40, most - 8} {
		name := func(k int) string { return "p" + strconv.Itoa(k) }
		var l []api.Clause
		var goals []api.Term
		for k := range n {
			l = append(l, rule(c(name(k), v(0)), c("all", v(0))))
			goals = append(goals, c(name(k), v(0)))
			if k > 0 {
				l = append(l, fact(c(name(k), a("a"))), fact(c(name(k), a("b"))))
			}
		}
		l = append(l, rule(c("all", v(0)), joined(goals...)))
		some(t, 2*(n-1), l)
		l = append(l, fact(c(name(0), a("b"))))
		some(t, 2*(n-1)+2, l)
		l = append(l, fact(c("all", a("c"))))
		some(t, 2*(n-1)+2+n+1, l)
	}
	// The same predicate in all of them.
	for _, n := range []int{2, 3, 16, 17, 30} {
		var goals []api.Term
		for k := range n {
			goals = append(goals, c("t", v(int64(k)), v(int64(k+1))))
		}
		l := []api.Clause{made(t, c("t", v(0), v(int64(n))), goals...)}
		for k := range 40 {
			l = append(l, fact(two("t", k, k+1)))
		}
		// A way of n edges is one: so is one of 1 more than so many times n - 1 of them.
		want := 0
		for far := 1; far <= 40; far += n - 1 {
			want += 41 - far
		}
		some(t, want, l)
		l = append(l, made(t, c("u", v(0), v(1)), c("t", v(0), v(1))), made(t, c("t", v(0), v(1)), c("u", v(0), v(1)), not(c("w", v(0), v(1)))))
		some(t, 2*want, l)
	}
}

// TestManyPredicates: ways from predicate to predicate that are as long as there are clauses.
func TestManyPredicates(t *testing.T) {
	const n = 100000
	name := func(k int) api.Term { return a("p" + strconv.Itoa(k)) }
	var line, fall []api.Clause
	for k := range n {
		line = append(line, rule(name(k+1), name(k)))
		fall = append(fall, rule(name(k+1), not(name(k))))
	}
	for range 2 {
		some(t, 0, line)
		some(t, n+1, append(line[:n:n], fact(name(0))))
		some(t, n+1, append(line[:n:n], fact(name(5)), rule(name(0), name(n))))
		some(t, 0, append(line[:n:n], rule(name(0), name(n))))
		some(t, n/2, fall)
		some(t, n/2+1, append(fall[:n:n], fact(name(0))))
		got, err := model.Levels(fall)
		if err != api.OK || len(got) != n+1 {
			t.Fatal(len(got), err)
		}
		for _, x := range got {
			if x.Name != "p"+strconv.Itoa(x.Level) {
				t.Fatal(x)
			}
		}
		if got, err := model.Levels(append(fall[:n:n], rule(name(0), name(n)))); err != api.ErrLevel || got != nil {
			t.Error(len(got), err)
		}
		if got, err := model.Levels(append(line[:n:n], rule(name(0), not(name(n))))); err != api.ErrLevel || got != nil {
			t.Error(len(got), err)
		}
		slices.Reverse(line)
		slices.Reverse(fall)
	}
	// Each leans on all that came ahead of it, and all in one lean on one another.
	var l []api.Clause
	for k := range 600 {
		for m := range k {
			l = append(l, rule(name(k), name(m)))
		}
	}
	some(t, 600-300, append(l, fact(name(300))))
	some(t, 600, append(l, fact(name(300)), rule(name(0), name(599))))
}

// TestManyFacts: what follows is found in time that does not grow much faster than what follows.
func TestManyFacts(t *testing.T) {
	const n = 100000
	for _, rules := range []string{"r(0). r(Y) :- r(X), e(X,Y).", "r(0). r(Y) :- e(X,Y), r(X).", "r(0). r(Y) :- s(Y). s(Y) :- e(X,Y), r(X)."} {
		want := 2*n + 1
		if len(rules) > 40 {
			want += n
		}
		got := some(t, want, append(clauses(t, rules), path(n)...))
		if !same(got[n], c("r", i(n))) || !same(got[want-1], two("e", n-1, n)) {
			t.Error(show(got[n]), show(got[want-1]))
		}
	}
	got := some(t, n+n-1+n-1+1+1+n+1, append(clauses(t, "t(X,Z) :- e(X,Y), e(Y,Z). u(Y) :- e(X,Y), e(Y,Z). v :- e(X,Y), e(Z,W). w(X) :- e(X,Y), \\+ u(Y). n(X) :- e(X,Y). n(Y) :- e(X,Y), \\+ n(X,Y)."), path(n)...))
	if !same(got[0], a("v")) || !same(got[len(got)-1], two("t", n-2, n)) {
		t.Error(show(got[0]), show(got[len(got)-1]))
	}
	// Each rule has something to tell of one fact alone.
	l := []api.Clause{fact(c("r", i(0), a("a"))), fact(c("s", i(n)))}
	for k := range n {
		l = append(l, rule(c("r", i(int64(k+1)), v(0)), c("r", i(int64(k)), v(0))), rule(c("s", i(int64(n-k-1))), c(",", c("s", i(int64(n-k))), c("r", i(int64(n-k)), a("a")))))
	}
	some(t, 2*n+2, l)
	const far = 500
	for _, rule := range []string{"t(X,Y) :- e(X,Z), t(Z,Y).", "t(X,Y) :- t(X,Z), e(Z,Y).", "t(X,Y) :- t(X,Z), t(Z,Y).", "t(X,Y) :- e(X,Z), t(Z,W), e(W,Y). t(X,Y) :- e(X,Z), e(Z,Y)."} {
		if rule[8] == 't' && rule[16] == 't' {
			some(t, 200+200*201/2, append(clauses(t, "t(X,Y) :- e(X,Y). "+rule), path(200)...))
		} else {
			some(t, far+far*(far+1)/2, append(clauses(t, "t(X,Y) :- e(X,Y). "+rule), path(far)...))
		}
	}
}

// TestWaysToTheSame: there are more ways to what follows than can be gone, and than can be kept.
func TestWaysToTheSame(t *testing.T) {
	l := clauses(t, "p(A,Z) :- d(A,B), d(B,C), d(C,Z).")
	const n = 1100
	for k := range n {
		l = append(l, fact(c("d", i(int64(k)), a("hub"))), fact(c("d", a("hub"), i(int64(n+k)))), fact(c("d", i(int64(n+k)), a("end"))))
	}
	some(t, 3*n+n, l)
	// In each step there are three ways, and all of them lead to nothing.
	var goals []api.Term
	for k := range int64(60) {
		goals = append(goals, c("e", v(k), v(k+1)))
	}
	goals = append(goals, not(c("e", v(60), v(60))))
	l = []api.Clause{made(t, a("p"), goals...), made(t, c("p", v(0)), goals...), made(t, c("p", v(20), v(40)), goals...)}
	l = append(l, made(t, c("q", v(0), v(60)), goals...), made(t, c("q", v(0), v(30)), append([]api.Term{c("q", v(30), v(20))}, goals...)...))
	for k := range 9 {
		l = append(l, fact(two("e", k/3, k%3)), fact(two("q", k/3, k%3)))
	}
	some(t, 18, l)
	for program, want := range map[string]int{
		// Goals that have nothing to do with the head, of which some can't be made true.
		"p(X) :- e(X,Y), e(A,B), e(C,D), e(F,G), e(H,H).":         0,
		"p(X) :- e(X,Y), e(A,B), e(C,D), e(F,G), e(H,H), e(X,X).": 0,
		"p :- e(A,B), e(C,D), e(F,G), e(H,I).":                    1,
		"p :- e(A,B), e(C,D), e(F,G), \\+ e(A,A), \\+ e(D,D).":    1,
		"p(X,Y) :- e(X,A), e(B,C), e(D,Y), e(X,Y).":               2000,
		"p(X) :- e(X,A), e(X,B), e(X,C), e(X,D), e(D,X).":         0,
		"p(X) :- e(B,C), p(X), e(D,C), e(F,G), e(H,H). p(1).":     1,
		"p(X) :- e(B,C), p(Y), e(X,Y), e(F,G), e(H,I). p(9).":     10,
	} {
		some(t, 2000+want, append(clauses(t, program), path(2000)...))
	}
	const far = 40000
	some(t, 2*far, append(clauses(t, "p(X) :- n(X), e(A,B), e(B,A). n(X) :- e(X,Y)."), path(far)...))
}

// TestWidePredicates: of as many Args as there may be, asked for by more sets of Args than there are indexes.
func TestWidePredicates(t *testing.T) {
	x := chance(39)
	var l []api.Clause
	var rows [][]int64
	for range 60 {
		row := make([]int64, api.MaxArity)
		args := make([]api.Term, api.MaxArity)
		for k := range row {
			row[k] = int64(x.below(2))
			args[k] = i(row[k])
		}
		rows = append(rows, row)
		l = append(l, fact(c("w", args...)))
	}
	want := map[string]int{}
	for k := range 200 {
		// The goal has the values of some row in some of its Args, and is joined with itself by others.
		row := rows[x.below(len(rows))]
		first, second := make([]api.Term, api.MaxArity), make([]api.Term, api.MaxArity)
		shared := 1 + x.below(5)
		given := map[int]int64{}
		for m := range row {
			first[m], second[m] = v(int64(m)), v(int64(m+api.MaxArity))
			if m%7 == shared {
				second[m] = v(int64(m))
			}
			if x.below(12) == 0 {
				first[m] = i(row[m])
				given[m] = row[m]
			}
		}
		name := "h" + strconv.Itoa(k)
		first[49] = v(49)
		delete(given, 49)
		l = append(l, made(t, c(name, v(49)), c("w", first...), c("w", second...)))
		values := map[int64]bool{}
		for _, some := range rows {
			if !slices.ContainsFunc(slices.Collect(keys(given)), func(m int) bool { return some[m] != given[m] }) {
				values[some[49]] = true
			}
		}
		want[name] = len(values)
	}
	counts := map[string]int{}
	facts, err := model.Model(l)
	for _, x := range facts {
		counts[x.Name]++
	}
	for name, count := range want {
		if err != api.OK || counts[name] != count {
			t.Error(name, counts[name], count, err)
		}
		if got, err := model.Ask(l, c(name, v(0))); err != api.OK || len(got) != count {
			t.Error(name, len(got), count, err)
		}
	}
}

func keys(m map[int]int64) func(yield func(int) bool) {
	return func(yield func(int) bool) {
		for k := range m {
			if !yield(k) {
				return
			}
		}
	}
}

// TestAskLeavesTheRest: what a query's predicate does not lean on may have more facts than there is room for.
func TestAskLeavesTheRest(t *testing.T) {
	l := clauses(t, "far(A,B,C,D,E,F,G,H) :- e(A,B), e(C,D), e(E,F), e(G,H). further(A) :- far(A,B,C,D,E,F,G,H), \\+ r(A). r(0). r(Y) :- r(X), e(X,Y). p(X) :- e(X,Y), \\+ e(Y,X), r(5).")
	l = append(l, path(1000)...)
	for query, want := range map[string]int{"r(X)": 1001, "e(X,Y)": 1000, "e(X,7)": 1, "p(X)": 1000, "p(1000)": 0, "further": 0, "far(X)": 0} {
		if got, err := model.Ask(l, read(t, query)); err != api.OK || len(got) != want {
			t.Error(query, len(got), err)
		}
	}
}
