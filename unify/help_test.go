package unify_test

import (
	"strconv"
	"strings"

	"hornbook/api"
)

func v(n int64) api.Term     { return api.Term{Kind: api.Var, N: n} }
func i(n int64) api.Term     { return api.Term{Kind: api.Int, N: n} }
func a(name string) api.Term { return api.Term{Kind: api.Atom, Name: name} }
func c(name string, args ...api.Term) api.Term {
	return api.Term{Kind: api.Comp, Name: name, Args: args}
}
func b(n int64, to api.Term) api.Bind { return api.Bind{Var: n, To: to} }
func p(x, y api.Term) api.Pair        { return api.Pair{A: x, B: y} }

func isZero(t api.Term) bool {
	return t.Kind == 0 && t.N == 0 && t.Name == "" && len(t.Args) == 0
}

func same(x, y api.Term) bool {
	if x.Kind != y.Kind || x.N != y.N || x.Name != y.Name || len(x.Args) != len(y.Args) {
		return false
	}
	for k := range x.Args {
		if !same(x.Args[k], y.Args[k]) {
			return false
		}
	}
	return true
}

func sameBinds(x, y []api.Bind) bool {
	if len(x) != len(y) {
		return false
	}
	for k := range x {
		if x[k].Var != y[k].Var || !same(x[k].To, y[k].To) {
			return false
		}
	}
	return true
}

// show writes a term for a message, also one that is none.
func show(t api.Term) string {
	switch {
	case t.Kind == api.Var && t.Name == "" && len(t.Args) == 0:
		return "_" + strconv.FormatInt(t.N, 10)
	case t.Kind == api.Int && t.Name == "" && len(t.Args) == 0:
		return strconv.FormatInt(t.N, 10)
	case t.Kind == api.Atom && t.N == 0 && len(t.Args) == 0:
		return strconv.Quote(t.Name)
	case t.Kind == api.Comp && t.N == 0:
		list := make([]string, len(t.Args))
		for k, arg := range t.Args {
			list[k] = show(arg)
		}
		return strconv.Quote(t.Name) + "(" + strings.Join(list, ",") + ")"
	}
	return "<kind " + strconv.Itoa(t.Kind) + " N " + strconv.FormatInt(t.N, 10) + " name " + strconv.Quote(t.Name) + " args " + strconv.Itoa(len(t.Args)) + ">"
}

func showBinds(s []api.Bind) string {
	list := make([]string, len(s))
	for k, x := range s {
		list[k] = strconv.FormatInt(x.Var, 10) + " to " + show(x.To)
	}
	return "[" + strings.Join(list, ", ") + "]"
}

func showPairs(l []api.Pair) string {
	list := make([]string, len(l))
	for k, x := range l {
		list[k] = show(x.A) + " = " + show(x.B)
	}
	return "[" + strings.Join(list, ", ") + "]"
}

// applied is a naive way to put something in the place of variables.
func applied(t api.Term, s []api.Bind) api.Term {
	if t.Kind == api.Var {
		for _, x := range s {
			if x.Var == t.N {
				return x.To
			}
		}
	}
	out := t
	out.Args = nil
	for _, arg := range t.Args {
		out.Args = append(out.Args, applied(arg, s))
	}
	return out
}

func unifies(s []api.Bind, l []api.Pair) bool {
	for _, x := range l {
		if !same(applied(x.A, s), applied(x.B, s)) {
			return false
		}
	}
	return true
}

func hasVar(t api.Term, n int64) bool {
	if t.Kind == api.Var {
		return t.N == n
	}
	for _, arg := range t.Args {
		if hasVar(arg, n) {
			return true
		}
	}
	return false
}

// naive finds by replacing in all that there is what Solve should answer.
func naive(l []api.Pair) ([]api.Bind, bool) {
	var s []api.Bind
	work := append([]api.Pair{}, l...)
	for len(work) > 0 {
		x, y := applied(work[0].A, s), applied(work[0].B, s)
		work = work[1:]
		if x.Kind != api.Var || y.Kind == api.Var && y.N > x.N {
			x, y = y, x
		}
		switch {
		case same(x, y):
		case x.Kind == api.Var && hasVar(y, x.N):
			return nil, false
		case x.Kind == api.Var:
			s = withBind(s, b(x.N, y))
		case x.Kind != api.Comp || y.Kind != api.Comp || x.Name != y.Name || len(x.Args) != len(y.Args):
			return nil, false
		default:
			for k := range x.Args {
				work = append(work, p(x.Args[k], y.Args[k]))
			}
		}
	}
	return s, true
}

// withBind puts a bind in its place among those of a substitution that has not its variable in it.
func withBind(s []api.Bind, x api.Bind) []api.Bind {
	var out []api.Bind
	for _, y := range s {
		if len(out) == 0 || out[len(out)-1].Var < x.Var {
			if y.Var > x.Var {
				out = append(out, x)
			}
		}
		out = append(out, b(y.Var, applied(y.To, []api.Bind{x})))
	}
	if len(out) == 0 || out[len(out)-1].Var < x.Var {
		out = append(out, x)
	}
	return out
}

// pool has small terms, each once, among them all compounds f of two of some.
func pool() []api.Term {
	small := []api.Term{v(0), v(1), v(2), a("a"), c("g", v(0)), c("g", v(1))}
	list := append([]api.Term{i(0), i(-1), a(""), a("b"), a("g"), c("h", a("a")), c("g", a("a"))}, small...)
	for _, x := range small {
		for _, y := range small {
			list = append(list, c("f", x, y))
		}
	}
	return append(list, c("g", c("g", v(0))), c("f", v(0), v(1), v(0)), c("f", v(1), c("g", v(0)), v(2)))
}

// substitutions: some, of which variables are bound to others, to themselves, and to compounds with variables.
func substitutions() [][]api.Bind {
	tos := []api.Term{v(0), v(1), v(2), a("a"), c("g", a("a")), c("g", v(0)), c("g", v(1)), c("f", v(3), v(2))}
	list := [][]api.Bind{nil}
	for _, x := range tos {
		for _, y := range tos {
			list = append(list, []api.Bind{b(0, x), b(1, y)}, []api.Bind{b(1, x), b(2, y)}, []api.Bind{b(0, x), b(2, y)})
			for _, z := range tos[:5] {
				list = append(list, []api.Bind{b(0, x), b(1, y), b(2, z)})
			}
		}
	}
	return list
}

// nones: what is no term, in each way that P3 names.
func nones() []api.Term {
	long := strings.Repeat("x", api.MaxName+1)
	one := []api.Term{i(1)}
	many := make([]api.Term, api.MaxArity+1)
	for k := range many {
		many[k] = i(1)
	}
	list := []api.Term{
		{}, {Kind: -1}, {Kind: 5}, {Kind: 5, Name: "f", Args: one},
		v(-1), v(-1 << 63), v(api.MaxVar + 1), v(1<<63 - 1),
		{Kind: api.Var, Name: "X"}, {Kind: api.Var, Args: one},
		{Kind: api.Int, Name: "1"}, {Kind: api.Int, N: 1, Args: one},
		{Kind: api.Atom, Name: "a", N: 1}, {Kind: api.Atom, Name: "a", Args: one}, a(long),
		{Kind: api.Comp, Name: "f"}, {Kind: api.Comp, Name: "f", Args: []api.Term{}},
		{Kind: api.Comp, Name: "f", N: 1, Args: one}, c(long, i(1)), c("f", many...),
	}
	for _, x := range list[:len(list):len(list)] {
		list = append(list, c("f", x), c("f", i(1), c("g", x, v(0))), c("f", i(1), v(0), x))
	}
	return list
}

// chance is a source of numbers that are the same ones each time.
type chance uint64

func (x *chance) below(n int) int {
	*x = *x*6364136223846793005 + 1442695040888963407
	return int(uint64(*x) >> 33 % uint64(n))
}

func (x *chance) term(vars, deep int) api.Term {
	switch k := x.below(10); {
	case k < 5 || deep == 0:
		return v(int64(x.below(vars)))
	case k < 6:
		return a([]string{"a", "b"}[x.below(8)/7])
	case k < 8:
		return c("g", x.term(vars, deep-1))
	}
	return c("f", x.term(vars, deep-1), x.term(vars, deep-1))
}

// deep is a list of so many entries, made by entry, each nested in the one ahead of it.
func deep(n int, entry func(k int) api.Term) api.Term {
	t := a("[]")
	for k := n - 1; k >= 0; k-- {
		t = c(".", entry(k), t)
	}
	return t
}
