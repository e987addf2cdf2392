package compile_test

import (
	"strconv"
	"strings"
	"testing"

	"hornbook/api"
	"hornbook/base"
	"hornbook/compile"
	"hornbook/machine"
	"hornbook/solve"
	"hornbook/term"
	"hornbook/text"
)

const (
	least    = -1 << 63
	greatest = 1<<63 - 1
)

func v(n int64) api.Term     { return api.Term{Kind: api.Var, N: n} }
func i(n int64) api.Term     { return api.Term{Kind: api.Int, N: n} }
func a(name string) api.Term { return api.Term{Kind: api.Atom, Name: name} }
func c(name string, args ...api.Term) api.Term {
	return api.Term{Kind: api.Comp, Name: name, Args: args}
}

// joined is some goals in a row.
func joined(l []api.Term) api.Term {
	t := l[len(l)-1]
	for k := len(l) - 2; k >= 0; k-- {
		t = c(",", l[k], t)
	}
	return t
}

// show writes a term for a message, also one that is none.
func show(t api.Term) string {
	if s, err := text.Print(t, text.Default()); err == api.OK {
		return s
	}
	l := make([]string, len(t.Args))
	for k, arg := range t.Args {
		l[k] = show(arg)
	}
	return "<kind " + strconv.Itoa(t.Kind) + " N " + strconv.FormatInt(t.N, 10) + " name " + strconv.Quote(t.Name) + " args " + strings.Join(l, ",") + ">"
}

// short is a text for a message.
func short(s string) string {
	if len(s) > 3000 {
		return s[:3000] + ".."
	}
	return s
}

func showClauses(l []api.Clause) string {
	out := ""
	for _, x := range l {
		out += short(show(c(":-", x.Head, x.Body))) + ". "
	}
	return short(out)
}

// told writes what a machine and a search tell alike.
func told(o api.Outcome) string {
	return "kind " + strconv.Itoa(o.Kind) + " term " + show(o.Term) + " ball " + show(o.Ball) + " text " + strconv.Quote(o.Text)
}

// brief writes an outcome: what was printed in `<>`, then what came.
func brief(o api.Outcome) string {
	out := ""
	if o.Text != "" {
		out = "<" + o.Text + ">"
	}
	switch o.Kind {
	case api.Answer:
		return out + show(o.Term)
	case api.Thrown:
		return out + "ball " + show(o.Ball)
	case api.None:
		return out + "none"
	case api.Out:
		return out + "out"
	}
	return out + "no outcome"
}

func read(t *testing.T, s string) api.Term {
	t.Helper()
	got, f := text.ReadTerm(s, text.Default())
	if f.Code != api.OK {
		t.Fatalf("%q: error %d at %d", s, f.Code, f.At)
	}
	return got.Term
}

// program is the clauses of a text.
func program(t *testing.T, s string) []api.Clause {
	t.Helper()
	sentences, f := text.Read(s, text.Default())
	if f.Code != api.OK {
		t.Fatalf("%q: error %d at %d", s, f.Code, f.At)
	}
	var l []api.Clause
	for _, x := range sentences {
		l = append(l, made(t, x.Term))
	}
	return l
}

func made(t *testing.T, x api.Term) api.Clause {
	t.Helper()
	got, err := base.Make(x)
	if err != api.OK {
		t.Fatalf("%s: %v", show(x), err)
	}
	return got
}

// compiled is the code of clauses and a query, which Check must take.
func compiled(t *testing.T, l []api.Clause, query api.Term) api.Code {
	t.Helper()
	got, err := compile.Compile(l, query)
	if err != api.OK {
		t.Fatalf("%s of %s: %v", short(show(query)), showClauses(l), err)
	}
	if err := machine.Check(got); err != api.OK {
		t.Fatalf("%s of %s: Check says %v", short(show(query)), showClauses(l), err)
	}
	return got
}

// started is a machine that runs clauses and a query.
func started(t *testing.T, l []api.Clause, query api.Term) *machine.Machine {
	t.Helper()
	m, err := machine.New(compiled(t, l, query), query)
	if err != api.OK {
		t.Fatalf("%s: %v", short(show(query)), err)
	}
	return m
}

// searching is a search over clauses.
func searching(t *testing.T, l []api.Clause, query api.Term) *solve.Search {
	t.Helper()
	b := base.New()
	for _, x := range l {
		if _, err := b.Add(x, false); err != api.OK {
			t.Fatalf("%s: %v", showClauses([]api.Clause{x}), err)
		}
	}
	s, err := solve.New(b, query)
	if err != api.OK {
		t.Fatalf("%s: %v", short(show(query)), err)
	}
	return s
}

// size is how many parts clauses and a query have in all.
func size(l []api.Clause, query api.Term) int {
	all, _, _ := term.Measure(query)
	for _, x := range l {
		head, _, _ := term.Measure(x.Head)
		body, _, _ := term.Measure(x.Body)
		all += head + body
	}
	return all
}

// held holds a machine against a search, outcome by outcome, as long as the search is not Out, and gives the machine no more steps
// than the document does. It answers the kinds that came.
func held(t *testing.T, l []api.Clause, query api.Term, steps, outcomes int) (kinds []int) {
	t.Helper()
	m, s, p := started(t, l, query), searching(t, l, query), size(l, query)
	taken, left := 0, 20*(p+1)
	for k := range outcomes {
		want := s.Next(steps)
		kinds = append(kinds, want.Kind)
		if want.Kind == api.Out {
			return kinds
		}
		taken += want.Steps
		left += 20 * want.Steps * (p + 1)
		got := m.Next(left)
		left -= got.Steps
		if told(got) != told(want) {
			t.Fatalf("outcome %d of %s, with %s behind %d steps (%d left): %s, not %s", k, short(show(query)), showClauses(l), taken, left, short(told(got)), short(told(want)))
		}
		if want.Kind != api.Answer {
			return kinds
		}
	}
	return kinds
}

// nones: what is no term, in each way that P3 names.
func nones() []api.Term {
	long := strings.Repeat("x", api.MaxName+1)
	one := []api.Term{i(1)}
	many := make([]api.Term, api.MaxArity+1)
	for k := range many {
		many[k] = i(1)
	}
	l := []api.Term{
		{}, {Kind: -1}, {Kind: 5}, {Kind: 5, Name: "f", Args: one},
		v(-1), v(least), v(api.MaxVar + 1), v(greatest),
		{Kind: api.Var, Name: "X"}, {Kind: api.Var, Args: one},
		{Kind: api.Int, Name: "1"}, {Kind: api.Int, N: 1, Args: one},
		{Kind: api.Atom, Name: "a", N: 1}, {Kind: api.Atom, Name: "a", Args: one}, {Kind: api.Atom, Name: "true", N: 1}, a(long),
		{Kind: api.Comp, Name: "f"}, {Kind: api.Comp, Name: "true"}, {Kind: api.Comp, Name: "f", Args: []api.Term{}},
		{Kind: api.Comp, Name: "f", N: 1, Args: one}, {Kind: api.Comp, Name: ",", N: 1, Args: []api.Term{i(1), i(1)}}, c(long, i(1)), c("f", many...), c(",", many...),
	}
	for _, x := range l[:len(l):len(l)] {
		l = append(l, c("p", x), c("p", v(0), c("g", x)), c(",", x, i(3)), c(",", i(3), x), c(";", a("a"), c("->", v(0), x)), c("\\+", x), c("call", x))
	}
	return l
}

// chance is a source of numbers that are the same ones each time.
type chance uint64

func (x *chance) below(n int) int {
	*x = *x*6364136223846793005 + 1442695040888963407
	return int(uint64(*x) >> 33 % uint64(n))
}

func pick[T any](x *chance, l ...T) T {
	return l[x.below(len(l))]
}
