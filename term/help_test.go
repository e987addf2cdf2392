package term_test

import (
	"strconv"
	"strings"
	"testing"

	"hornbook/api"
	"hornbook/term"
)

func v(n int64) api.Term     { return api.Term{Kind: api.Var, N: n} }
func i(n int64) api.Term     { return api.Term{Kind: api.Int, N: n} }
func a(name string) api.Term { return api.Term{Kind: api.Atom, Name: name} }
func c(name string, args ...api.Term) api.Term {
	return api.Term{Kind: api.Comp, Name: name, Args: args}
}
func b(n int64, to api.Term) api.Bind { return api.Bind{Var: n, To: to} }

func isZero(t api.Term) bool {
	return t.Kind == 0 && t.N == 0 && t.Name == "" && len(t.Args) == 0
}

func same(x, y api.Term) bool {
	if x.Kind != y.Kind || x.N != y.N || x.Name != y.Name || len(x.Args) != len(y.Args) {
		return false
	}
	for k := range x.Args {
		if !same(x.Args[k], y.Args[k]) {
			return false
		}
	}
	return true
}

func sameBinds(x, y []api.Bind) bool {
	if len(x) != len(y) {
		return false
	}
	for k := range x {
		if x[k].Var != y[k].Var || !same(x[k].To, y[k].To) {
			return false
		}
	}
	return true
}

// show writes a term for a message, also one that is none.
func show(t api.Term) string {
	switch {
	case t.Kind == api.Var && t.Name == "" && len(t.Args) == 0:
		return "_" + strconv.FormatInt(t.N, 10)
	case t.Kind == api.Int && t.Name == "" && len(t.Args) == 0:
		return strconv.FormatInt(t.N, 10)
	case t.Kind == api.Atom && t.N == 0 && len(t.Args) == 0:
		return strconv.Quote(t.Name)
	case t.Kind == api.Comp && t.N == 0:
		list := make([]string, len(t.Args))
		for k, arg := range t.Args {
			list[k] = show(arg)
		}
		return strconv.Quote(t.Name) + "(" + strings.Join(list, ",") + ")"
	}
	return "<kind " + strconv.Itoa(t.Kind) + " N " + strconv.FormatInt(t.N, 10) + " name " + strconv.Quote(t.Name) + " args " + strconv.Itoa(len(t.Args)) + ">"
}

func showBinds(s []api.Bind) string {
	list := make([]string, len(s))
	for k, x := range s {
		list[k] = strconv.FormatInt(x.Var, 10) + " to " + show(x.To)
	}
	return "[" + strings.Join(list, ", ") + "]"
}

// replaced is a second, naive way to put something in the place of variables.
func replaced(t api.Term, become map[int64]api.Term) api.Term {
	if to, ok := become[t.N]; ok && t.Kind == api.Var {
		return to
	}
	out := t
	out.Args = nil
	for _, arg := range t.Args {
		out.Args = append(out.Args, replaced(arg, become))
	}
	return out
}

func partsOf(t api.Term) []api.Term {
	list := []api.Term{t}
	for _, arg := range t.Args {
		list = append(list, partsOf(arg)...)
	}
	return list
}

func varsOf(t api.Term) []int64 {
	var list []int64
	for _, p := range partsOf(t) {
		if p.Kind == api.Var && !hasNumber(list, p.N) {
			list = append(list, p.N)
		}
	}
	return list
}

func hasNumber(list []int64, n int64) bool {
	for _, x := range list {
		if x == n {
			return true
		}
	}
	return false
}

// pool has small terms, each once, among them all compounds f of two of some.
func pool() []api.Term {
	small := []api.Term{v(0), v(1), i(0), a("a"), c("g", v(0)), c("g", v(1)), c("g", a("a"))}
	list := append([]api.Term{v(2), i(-1), a(""), a("b"), a("g"), c("h", a("a"))}, small...)
	for _, x := range small {
		for _, y := range small {
			list = append(list, c("f", x, y))
		}
	}
	return append(list, c("g", c("g", v(0))), c("f", v(0), v(1), v(0)), c("f", v(1), v(0), v(1)), c("f", v(0), v(0), v(1)))
}

// substitutions: some, of which variables are bound to others, to themselves, and to compounds with variables.
func substitutions() [][]api.Bind {
	tos := []api.Term{v(0), v(1), v(2), a("a"), c("g", v(0)), c("f", v(1), v(2))}
	list := [][]api.Bind{nil, {}}
	for _, x := range tos {
		list = append(list, []api.Bind{b(0, x)}, []api.Bind{b(1, x)})
		for _, y := range tos {
			list = append(list, []api.Bind{b(0, x), b(1, y)}, []api.Bind{b(1, x), b(2, y)})
		}
	}
	return list
}

func asMap(s []api.Bind) map[int64]api.Term {
	m := map[int64]api.Term{}
	for _, x := range s {
		m[x.Var] = x.To
	}
	return m
}

// nones: what is no term, in each way that P3 names.
func nones() []api.Term {
	long := strings.Repeat("x", api.MaxName+1)
	one := []api.Term{i(1)}
	many := make([]api.Term, api.MaxArity+1)
	for k := range many {
		many[k] = i(1)
	}
	list := []api.Term{
		{}, {Kind: -1}, {Kind: 5}, {Kind: 5, Name: "f", Args: one}, {Kind: 0, Name: "a"},
		v(-1), v(-1 << 63), v(api.MaxVar + 1), v(1<<63 - 1),
		{Kind: api.Var, Name: "X"}, {Kind: api.Var, Args: one},
		{Kind: api.Int, Name: "1"}, {Kind: api.Int, N: 1, Args: one},
		{Kind: api.Atom, Name: "a", N: 1}, {Kind: api.Atom, Name: "a", N: -1}, {Kind: api.Atom, Name: "a", Args: one},
		a(long), a(strings.Repeat("é", api.MaxName/2+1)),
		{Kind: api.Comp, Name: "f"}, {Kind: api.Comp, Name: "f", Args: []api.Term{}},
		{Kind: api.Comp, Name: "f", N: 1, Args: one}, {Kind: api.Comp, Name: "f", N: -1, Args: one},
		c(long, i(1)), c("f", many...),
	}
	for _, x := range list[:len(list):len(list)] {
		list = append(list, c("f", x), c("f", i(1), c("g", x, v(0))), c("f", i(1), v(0), x))
	}
	return list
}

// deep is a list of so many entries, made by entry, each nested in the one ahead of it.
func deep(n int, entry func(k int) api.Term) api.Term {
	t := a("[]")
	for k := n - 1; k >= 0; k-- {
		t = c(".", entry(k), t)
	}
	return t
}

func match(t *testing.T, p, x api.Term) bool {
	t.Helper()
	_, is, err := term.Match(p, x)
	if err != api.OK {
		t.Fatalf("Match of %s and %s: %v", show(p), show(x), err)
	}
	return is
}
