package magic_test

import (
	"strconv"
	"strings"
	"testing"

	"hornbook/api"
	"hornbook/magic"
	"hornbook/model"
)

// most parts may be nested in one another, by the document.
const most = 1 << 16

// made clauses of a query, which must be so many.
func madeOf(t *testing.T, want int, l []api.Clause, query api.Term) ([]api.Clause, api.Term) {
	t.Helper()
	got, asks, err := magic.Magic(l, query)
	if err != api.OK || len(got) != want {
		t.Fatal(len(got), err)
	}
	return got, asks
}

// count of the goals of a body that is joined to the right; -1, if it is not.
func count(body api.Term) int {
	n := 1
	for isOf(body, ",", 2) {
		if isOf(body.Args[0], ",", 2) {
			return -1
		}
		body = body.Args[1]
		n++
	}
	return n
}

// balanced is the body of some goals, joined so that it is nested as little as can be.
func balanced(l []api.Term) api.Term {
	if len(l) == 1 {
		return l[0]
	}
	return c(",", balanced(l[:len(l)/2]), balanced(l[len(l)/2:]))
}

// TestDeepBodies: as deep as may be handed in, and answers that are nested deeper than that.
func TestDeepBodies(t *testing.T) {
	for name, around := range map[string]func(t api.Term) api.Term{
		"right": func(x api.Term) api.Term { return c(",", c("e", v(0)), x) },
		"left":  func(x api.Term) api.Term { return c(",", x, c("e", v(0))) },
		"both":  func(x api.Term) api.Term { return c(",", a("true"), c(",", x, c("e", v(0)))) },
	} {
		n := most - 4
		if name == "both" {
			n /= 2
		}
		nested := func(core api.Term) api.Term {
			for range n {
				core = around(core)
			}
			return core
		}
		l := []api.Clause{rule(c("h", v(0)), nested(c("h", v(0)))), fact(c("e", a("a")))}
		got, _ := madeOf(t, 4, l, c("h", a("a")))
		ahead := n
		if name != "right" {
			ahead = 0
		}
		if !same(got[2].Head, c("?h^b", v(0))) || count(got[2].Body) != 1+ahead || count(got[3].Body) != n+2 {
			t.Error(name, count(got[2].Body), count(got[3].Body))
		}
		for want, core := range map[api.Errno]api.Term{api.ErrKind: not(c("e", v(0))), api.ErrSafe: c(",", c("e", v(0)), a("here")), api.ErrTerm: {}, api.ErrClause: i(3)} {
			l[0].Body = nested(core)
			if want == api.ErrSafe {
				l[0].Head = c("h", v(0), v(1))
			}
			if err := errorOf(l, a("here")); err != want {
				t.Error(name, want, err)
			}
			l[0].Head = c("h", v(0))
		}
	}
	const n = 1 << 18
	goals := make([]api.Term, n)
	for k := range goals {
		goals[k] = c("e", v(int64(k)), v(int64(k+1)))
	}
	goals[n-1] = c("h", v(n-1))
	got, _ := madeOf(t, 3, []api.Clause{rule(c("h", v(0)), balanced(goals))}, c("h", a("a")))
	if !same(got[1].Head, c("?h^b", v(0))) || count(got[1].Body) != n || count(got[2].Body) != n+1 {
		t.Error(show(got[1].Head), count(got[1].Body), count(got[2].Body))
	}
}

// TestManyGoals: each of which is asked for by all that come ahead of it.
func TestManyGoals(t *testing.T) {
	const n = 1000
	goals := make([]api.Term, n)
	for k := range goals {
		goals[k] = c("h", v(int64(k)), v(int64(k+1)))
	}
	l := []api.Clause{made(t, c("h", v(0), v(n)), goals...)}
	got, _ := madeOf(t, 1+2*(n+1), l, c("h", a("a"), a("b")))
	for k := range n {
		name := "?h^bf"
		if k == n-1 {
			name = "?h^bb"
		}
		if got[1+k].Head.Name != name || count(got[1+k].Body) != k+1 || got[n+2+k].Head.Name != "?h^bf" || count(got[n+2+k].Body) != k+1 {
			t.Fatal(k, show(got[1+k].Head), count(got[1+k].Body), show(got[n+2+k].Head), count(got[n+2+k].Body))
		}
	}
	if !same(got[n+1].Head, c("h^bb", v(0), v(1))) || !same(got[2*n+2].Head, c("h^bf", v(0), v(1))) {
		t.Error(show(got[n+1].Head), show(got[2*n+2].Head))
	}
}

// TestManyPredicates: each of which is asked for by the one ahead of it, whatever their order is.
func TestManyPredicates(t *testing.T) {
	const n = 50000
	name := func(k int) string { return "p" + strconv.Itoa(k) }
	var l []api.Clause
	for at := range n {
		k := at * 7919 % n
		l = append(l, rule(c(name(k), v(0), v(1)), c(",", c("e", v(0), v(1)), c(name(k+1), v(1), v(0)))))
	}
	l = append(l, fact(c(name(n), a("a"), a("b"))), fact(c("e", a("a"), a("a"))))
	got, _ := madeOf(t, 1+2+2*n-1, l, c(name(0), a("a"), v(0)))
	for k, want := range []string{"?" + name(n-1) + "^bb", name(n-2) + "^bb", name(n-1) + "^bb"} {
		if x := got[len(got)-3+k]; x.Head.Name != want {
			t.Error(show(x.Head), want)
		}
	}
	madeOf(t, 1+2+1, l, c(name(n-1), a("a"), v(0)))
	// Very many clauses of one predicate, and very many that nobody asks for.
	l = nil
	for k := range n {
		l = append(l, fact(c("t", i(int64(k)), i(int64(k+1)))), rule(c("u", v(0)), c("t", v(0), i(int64(k)))), fact(c("e", i(int64(k)))))
	}
	madeOf(t, len(l), l, c("e", v(0)))
	l = append(l, rule(c("t", v(0), v(1)), c("t", v(1), v(0))))
	madeOf(t, 1+n+(n+2)+(n+2), l, c("t", i(0), v(0)))
}

// TestManyModes: as many as there are of so many Args.
func TestManyModes(t *testing.T) {
	const n = 9
	x, y := make([]api.Term, n), make([]api.Term, n)
	for k := range n {
		x[k], y[k] = v(int64(k)), v(int64(k))
	}
	y[0] = v(n)
	l := []api.Clause{made(t, c("p", x...), c("e", x...))}
	for k := range n {
		// One that frees an Arg, and one that turns them all about.
		free := append([]api.Term(nil), x...)
		free[k] = v(n)
		l = append(l, made(t, c("p", x...), c("p", free...), c("e", x...)))
	}
	query := make([]api.Term, n)
	for k := range query {
		query[k] = i(int64(k))
	}
	got, _ := madeOf(t, 1+(1<<n)*(1+2*n), l, c("p", query...))
	modes := map[string]int{}
	for _, x := range got {
		if !strings.HasPrefix(x.Head.Name, "?") {
			modes[x.Head.Name]++
		}
	}
	if len(modes) != 1<<n {
		t.Error(len(modes))
	}
}

// TestLess: a query of which little follows has a small model where the whole one would be very large.
func TestLess(t *testing.T) {
	const n = 20000
	l := clauses(t, "t(X,Y) :- e(X,Y). t(X,Y) :- e(X,Z), t(Z,Y).")
	for k := range n {
		l = append(l, fact(c("e", i(int64(k)), i(int64(k+1)))))
	}
	got, asks := madeOf(t, 4+n, l, c("t", i(n-3), v(0)))
	if list, err := model.Ask(got, asks); err != api.OK || len(list) != 3 {
		t.Error(len(list), err)
	}
	if all, err := model.Model(got); err != api.OK || len(all) != n+6+4 {
		t.Error(len(all), err)
	}
}
