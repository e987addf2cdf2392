package machine_test

import (
	"strconv"
	"strings"
	"testing"

	"hornbook/api"
	"hornbook/base"
	"hornbook/machine"
	"hornbook/solve"
	"hornbook/text"
)

const (
	least    = -1 << 63
	greatest = 1<<63 - 1
)

func v(n int64) api.Term     { return api.Term{Kind: api.Var, N: n} }
func i(n int64) api.Term     { return api.Term{Kind: api.Int, N: n} }
func a(name string) api.Term { return api.Term{Kind: api.Atom, Name: name} }
func c(name string, args ...api.Term) api.Term {
	return api.Term{Kind: api.Comp, Name: name, Args: args}
}

func atom(name string) api.Constant          { return api.Constant{Kind: api.Atom, Name: name} }
func number(n int64) api.Constant            { return api.Constant{Kind: api.Int, N: n} }
func pred(name string, n int64) api.Constant { return api.Constant{Kind: api.Comp, Name: name, N: n} }

func same(x, y api.Term) bool {
	if x.Kind != y.Kind || x.N != y.N || x.Name != y.Name || len(x.Args) != len(y.Args) {
		return false
	}
	for k := range x.Args {
		if !same(x.Args[k], y.Args[k]) {
			return false
		}
	}
	return true
}

func isZero(t api.Term) bool { return same(t, api.Term{}) }

// show writes a term for a message, also one that is none.
func show(t api.Term) string {
	if s, err := text.Print(t, text.Default()); err == api.OK {
		return s
	}
	l := make([]string, len(t.Args))
	for k, arg := range t.Args {
		l[k] = show(arg)
	}
	return "<kind " + strconv.Itoa(t.Kind) + " N " + strconv.FormatInt(t.N, 10) + " name " + strconv.Quote(t.Name) + " args " + strings.Join(l, ",") + ">"
}

func showOutcome(o api.Outcome) string {
	return "kind " + strconv.Itoa(o.Kind) + " term " + show(o.Term) + " ball " + show(o.Ball) + " text " + strconv.Quote(o.Text) + " steps " + strconv.Itoa(o.Steps)
}

// brief writes an outcome: what was printed in `<>`, then what came, then behind `/` the steps.
func brief(o api.Outcome) string {
	out := ""
	if o.Text != "" {
		out = "<" + o.Text + ">"
	}
	switch o.Kind {
	case api.Answer:
		out += show(o.Term)
	case api.Thrown:
		out += "ball " + show(o.Ball)
	case api.None:
		out += "none"
	case api.Out:
		out += "out"
	default:
		out += "no outcome"
	}
	return out + "/" + strconv.Itoa(o.Steps)
}

func read(t *testing.T, s string) api.Term {
	t.Helper()
	got, f := text.ReadTerm(s, text.Default())
	if f.Code != api.OK {
		t.Fatalf("%q: error %d at %d", s, f.Code, f.At)
	}
	return got.Term
}

// ops are the instructions by their numbers, each with what it has: A, B or Con, in this order.
var ops = []struct{ name, has string }{
	{}, {"GetVar", "AB"}, {"GetVal", "AB"}, {"GetConst", "AC"}, {"GetComp", "AP"}, {"SubVar", "A"}, {"SubVal", "A"}, {"SubConst", "C"}, {"SubComp", "P"}, {"SubVoid", "A"},
	{"PutVar", "AB"}, {"PutVal", "AB"}, {"PutConst", "AC"}, {"PutComp", "AP"}, {"Call", "P"}, {"Last", "P"}, {"Back", ""}, {"Fail", ""}, {"Try", "L"}, {"Jump", "L"},
	{"Level", "A"}, {"Mark", "A"}, {"Cut", "A"}, {"Builtin", "P"}, {"UnlessConst", "LC"}, {"UnlessComp", "LP"},
}

func opOf(name string) int {
	for k, x := range ops {
		if x.name == name && name != "" {
			return k
		}
	}
	return 0
}

// code makes code of a text: each line is an instruction, perhaps behind labels, which end with a colon. The label `query` is
// where the query begins (else at 0); one such as `p/1` is an entry too.
func code(t *testing.T, s string) api.Code {
	t.Helper()
	var got api.Code
	labels := map[string]int{}
	var lines [][]string
	for _, line := range strings.Split(s, "\n") {
		words := strings.Fields(line)
		for len(words) > 0 && strings.HasSuffix(words[0], ":") {
			label := strings.TrimSuffix(words[0], ":")
			labels[label] = len(lines)
			if name, n, is := predOf(label); is {
				got.Entries = append(got.Entries, api.Entry{Name: name, N: int(n), At: len(lines)})
			}
			words = words[1:]
		}
		if len(words) > 0 {
			lines = append(lines, words)
		}
	}
	got.Query = labels["query"]
	for _, words := range lines {
		got.Instrs = append(got.Instrs, instr(t, words, labels))
	}
	return got
}

func predOf(s string) (name string, n int64, is bool) {
	at := strings.LastIndexByte(s, '/')
	if at < 0 {
		return "", 0, false
	}
	n, err := strconv.ParseInt(s[at+1:], 10, 64)
	return s[:at], n, err == nil
}

func instr(t *testing.T, words []string, labels map[string]int) api.Instr {
	t.Helper()
	x := api.Instr{Op: opOf(words[0])}
	if x.Op == 0 || len(words) != 1+len(ops[x.Op].has) {
		t.Fatalf("%v is no instruction", words)
	}
	for k, w := range words[1:] {
		n, err := strconv.ParseInt(w, 10, 64)
		switch ops[x.Op].has[k] {
		case 'A':
			x.A = int(n)
		case 'B':
			x.B = int(n)
		case 'C':
			x.Con = atom(w)
			if err == nil {
				x.Con = number(n)
			}
			err = nil
		case 'P':
			name, n, is := predOf(w)
			if x.Con = pred(name, n); is {
				err = nil
			}
		case 'L':
			if at, is := labels[w]; is {
				x.A, err = at, nil
			}
		}
		if err != nil {
			t.Fatalf("%v: %v", words, err)
		}
	}
	return x
}

// written is code as a text, for a message.
func written(l api.Code) string {
	out := "query " + strconv.Itoa(l.Query)
	for _, e := range l.Entries {
		out += ", " + e.Name + "/" + strconv.Itoa(e.N) + " at " + strconv.Itoa(e.At)
	}
	for k, x := range l.Instrs {
		out += "\n" + strconv.Itoa(k) + ": " + ops[x.Op].name + " " + strconv.Itoa(x.A) + " " + strconv.Itoa(x.B) + " " + x.Con.Name + "/" + strconv.FormatInt(x.Con.N, 10)
	}
	return out
}

// built gives a machine.
func built(t *testing.T, l api.Code, query api.Term) *machine.Machine {
	t.Helper()
	m, err := machine.New(l, query)
	if err != api.OK || m == nil {
		t.Fatalf("%s: %v", show(query), err)
	}
	return m
}

// plenty of steps, for what comes to an end.
const plenty = 100000

// outcomes writes outcome by outcome, up to the last one, or up to some.
func outcomes(t *testing.T, l api.Code, query string) string {
	t.Helper()
	m := built(t, l, read(t, query))
	out := ""
	for range 12 {
		o := m.Next(plenty)
		if out += brief(o); o.Kind != api.Answer {
			return out
		}
		out += "; "
	}
	return out + ".."
}

// program gives a base with the clauses of a text.
func program(t *testing.T, s string) *base.Base {
	t.Helper()
	l, f := text.Read(s, text.Default())
	if f.Code != api.OK {
		t.Fatalf("%q: error %d at %d", s, f.Code, f.At)
	}
	b := base.New()
	for _, x := range l {
		got, err := base.Make(x.Term)
		if err != api.OK {
			t.Fatalf("%s: %v", show(x.Term), err)
		}
		b.Add(got, false)
	}
	return b
}

func searching(t *testing.T, b *base.Base, query string) *solve.Search {
	t.Helper()
	s, err := solve.New(b, read(t, query))
	if err != api.OK {
		t.Fatalf("%s: %v", query, err)
	}
	return s
}

// nones: what is no term, in each way that P3 names.
func nones() []api.Term {
	long := strings.Repeat("x", api.MaxName+1)
	one := []api.Term{i(1)}
	many := make([]api.Term, api.MaxArity+1)
	for k := range many {
		many[k] = i(1)
	}
	l := []api.Term{
		{}, {Kind: -1}, {Kind: 5}, {Kind: 5, Name: "f", Args: one},
		v(-1), v(least), v(api.MaxVar + 1), v(greatest),
		{Kind: api.Var, Name: "X"}, {Kind: api.Var, Args: one},
		{Kind: api.Int, Name: "1"}, {Kind: api.Int, N: 1, Args: one},
		{Kind: api.Atom, Name: "a", N: 1}, {Kind: api.Atom, Name: "a", Args: one}, a(long),
		{Kind: api.Comp, Name: "f"}, {Kind: api.Comp, Name: "f", Args: []api.Term{}},
		{Kind: api.Comp, Name: "f", N: 1, Args: one}, c(long, i(1)), c("f", many...),
	}
	for _, x := range l[:len(l):len(l)] {
		l = append(l, c("p", x), c("p", v(0), c("g", x)))
	}
	return l
}

// chance is a source of numbers that are the same ones each time.
type chance uint64

func (x *chance) below(n int) int {
	*x = *x*6364136223846793005 + 1442695040888963407
	return int(uint64(*x) >> 33 % uint64(n))
}

func pick[T any](x *chance, l ...T) T {
	return l[x.below(len(l))]
}
