package cell

import (
	"strconv"
	"strings"

	"hornbook/api"
)

func v(n int64) api.Term     { return api.Term{Kind: api.Var, N: n} }
func i(n int64) api.Term     { return api.Term{Kind: api.Int, N: n} }
func a(name string) api.Term { return api.Term{Kind: api.Atom, Name: name} }
func c(name string, args ...api.Term) api.Term {
	return api.Term{Kind: api.Comp, Name: name, Args: args}
}

func show(t api.Term) string {
	switch t.Kind {
	case api.Var:
		return "_" + strconv.FormatInt(t.N, 10)
	case api.Int:
		return strconv.FormatInt(t.N, 10)
	}
	l := make([]string, len(t.Args))
	for k, arg := range t.Args {
		l[k] = show(arg)
	}
	return strconv.Quote(t.Name) + "(" + strings.Join(l, ",") + ")"
}

// chance is a source of numbers that are the same ones each time.
type chance uint64

func (x *chance) below(n int) int {
	*x = *x*6364136223846793005 + 1442695040888963407
	return int(uint64(*x) >> 33 % uint64(n))
}

func (x *chance) term(vars, deep int) api.Term {
	switch k := x.below(12); {
	case k < 5 || deep == 0:
		return v(int64(x.below(vars)))
	case k < 6:
		return a([]string{"a", "b"}[x.below(8)/7])
	case k < 7:
		return i(int64(x.below(8) / 7))
	case k < 9:
		return c("g", x.term(vars, deep-1))
	}
	return c("f", x.term(vars, deep-1), x.term(vars, deep-1))
}

// wide is a term with some hundred parts, which are such as walks that are not short meet.
func (x *chance) wide(vars int) api.Term {
	l := make([]api.Term, 3+x.below(api.MaxArity-2))
	for k := range l {
		l[k] = x.term(vars, 3)
	}
	return c("w", l...)
}

// values puts variables of a store in the place of numbers. They are all made ahead of any mark.
type values struct {
	store *Store
	given []*Variable
}

func newValues(vars int) *values {
	w := &values{store: &Store{}}
	for range vars {
		w.given = append(w.given, w.store.Variable())
	}
	return w
}

func (w *values) of(t api.Term) Value {
	return read(t, func(n int64) Value { return w.given[n] })
}
