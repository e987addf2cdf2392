package solve_test

import (
	"strconv"
	"strings"
	"testing"

	"hornbook/api"
	"hornbook/base"
	"hornbook/solve"
	"hornbook/text"
)

const (
	least    = -1 << 63
	greatest = 1<<63 - 1
)

func v(n int64) api.Term     { return api.Term{Kind: api.Var, N: n} }
func i(n int64) api.Term     { return api.Term{Kind: api.Int, N: n} }
func a(name string) api.Term { return api.Term{Kind: api.Atom, Name: name} }
func c(name string, args ...api.Term) api.Term {
	return api.Term{Kind: api.Comp, Name: name, Args: args}
}

// list is the list of some terms.
func list(l ...api.Term) api.Term {
	t := a("[]")
	for k := len(l) - 1; k >= 0; k-- {
		t = c(".", l[k], t)
	}
	return t
}

func isOf(t api.Term, name string, args int) bool {
	return t.Name == name && len(t.Args) == args && (t.Kind == api.Atom || t.Kind == api.Comp)
}

func same(x, y api.Term) bool {
	if x.Kind != y.Kind || x.N != y.N || x.Name != y.Name || len(x.Args) != len(y.Args) {
		return false
	}
	for k := range x.Args {
		if !same(x.Args[k], y.Args[k]) {
			return false
		}
	}
	return true
}

func isZero(t api.Term) bool { return same(t, api.Term{}) }

// show writes a term for a message, without operators, also one that is none.
func show(t api.Term) string {
	switch {
	case t.Kind == api.Var && t.Name == "" && len(t.Args) == 0:
		return "_" + strconv.FormatInt(t.N, 10)
	case t.Kind == api.Int && t.Name == "" && len(t.Args) == 0:
		return strconv.FormatInt(t.N, 10)
	case t.Kind == api.Atom && t.N == 0 && len(t.Args) == 0:
		return strconv.Quote(t.Name)
	case t.Kind == api.Comp && t.N == 0:
		l := make([]string, len(t.Args))
		for k, arg := range t.Args {
			l[k] = show(arg)
		}
		return strconv.Quote(t.Name) + "(" + strings.Join(l, ",") + ")"
	}
	return "<kind " + strconv.Itoa(t.Kind) + " N " + strconv.FormatInt(t.N, 10) + " name " + strconv.Quote(t.Name) + " args " + strconv.Itoa(len(t.Args)) + ">"
}

// printed writes a term as a text that is read as that term again.
func printed(t *testing.T, x api.Term) string {
	t.Helper()
	s, err := text.Print(x, text.Default())
	if err != api.OK {
		t.Fatalf("%s: %v", show(x), err)
	}
	return s
}

// read gives the term of a text.
func read(t *testing.T, s string) api.Term {
	t.Helper()
	got, f := text.ReadTerm(s, text.Default())
	if f.Code != api.OK {
		t.Fatalf("%q: error %d at %d", s, f.Code, f.At)
	}
	return got.Term
}

// filled gives a base with the clauses of a text.
func filled(t *testing.T, s string) *base.Base {
	t.Helper()
	l, f := text.Read(s, text.Default())
	if f.Code != api.OK {
		t.Fatalf("%q: error %d at %d", s, f.Code, f.At)
	}
	b := base.New()
	for _, x := range l {
		got, err := base.Make(x.Term)
		if err != api.OK {
			t.Fatalf("%s: %v", show(x.Term), err)
		}
		b.Add(got, false)
	}
	return b
}

// search gives one for the query of a text.
func search(t *testing.T, b *base.Base, query string) *solve.Search {
	t.Helper()
	s, err := solve.New(b, read(t, query))
	if err != api.OK {
		t.Fatalf("%s: %v", query, err)
	}
	return s
}

// plenty of steps, for what comes to an end.
const plenty = 100000

// outcomes writes all outcomes of a query behind one another: what was printed in `<>`, an Answer as its Term and `;`.
func outcomes(t *testing.T, b *base.Base, query string) string {
	t.Helper()
	s := search(t, b, query)
	out := ""
	for range 30 {
		o := s.Next(plenty)
		if o.Text != "" {
			out += "<" + o.Text + ">"
		}
		switch o.Kind {
		case api.Answer:
			out += printed(t, o.Term) + "; "
			continue
		case api.Thrown:
			return out + "ball " + printed(t, o.Ball)
		case api.None:
			return out + "none"
		case api.Out:
			return out + "out"
		}
		return out + "no outcome"
	}
	return out + ".."
}

// clausesOf writes the clauses of a base in their order.
func clausesOf(t *testing.T, b *base.Base) string {
	t.Helper()
	out := ""
	for _, id := range b.All() {
		x, err := b.Get(id)
		if err != api.OK {
			t.Fatal(id, err)
		}
		y, err := base.Plain(x)
		if err != api.OK {
			t.Fatal(id, err)
		}
		out += printed(t, y) + ". "
	}
	return out
}

func showOutcome(o api.Outcome) string {
	return "kind " + strconv.Itoa(o.Kind) + " term " + show(o.Term) + " ball " + show(o.Ball) + " text " + strconv.Quote(o.Text) + " steps " + strconv.Itoa(o.Steps)
}

// nones: what is no term, in each way that P3 names.
func nones() []api.Term {
	long := strings.Repeat("x", api.MaxName+1)
	one := []api.Term{i(1)}
	many := make([]api.Term, api.MaxArity+1)
	for k := range many {
		many[k] = i(1)
	}
	l := []api.Term{
		{}, {Kind: -1}, {Kind: 5}, {Kind: 5, Name: "f", Args: one},
		v(-1), v(least), v(api.MaxVar + 1), v(greatest),
		{Kind: api.Var, Name: "X"}, {Kind: api.Var, Args: one},
		{Kind: api.Int, Name: "1"}, {Kind: api.Int, N: 1, Args: one},
		{Kind: api.Atom, Name: "a", N: 1}, {Kind: api.Atom, Name: "a", Args: one}, {Kind: api.Atom, Name: "true", N: 1}, a(long),
		{Kind: api.Comp, Name: "f"}, {Kind: api.Comp, Name: "true"}, {Kind: api.Comp, Name: "f", Args: []api.Term{}},
		{Kind: api.Comp, Name: "f", N: 1, Args: one}, {Kind: api.Comp, Name: ",", N: 1, Args: []api.Term{i(1), i(1)}}, c(long, i(1)), c("f", many...), c(":-", many...),
	}
	for _, x := range l[:len(l):len(l)] {
		l = append(l, c("p", x), c("p", v(0), c("g", x)), c(",", x, i(3)), c(",", i(3), x), c(",", a("a"), c("->", v(0), x)), c("call", x), c("true", x))
	}
	return l
}

// chance is a source of numbers that are the same ones each time.
type chance uint64

func (x *chance) below(n int) int {
	*x = *x*6364136223846793005 + 1442695040888963407
	return int(uint64(*x) >> 33 % uint64(n))
}

func pick[T any](x *chance, l ...T) T {
	return l[x.below(len(l))]
}
