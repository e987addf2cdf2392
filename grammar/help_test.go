package grammar_test

import (
	"strconv"
	"strings"
	"testing"

	"hornbook/api"
	"hornbook/text"
)

const (
	least    = -1 << 63
	greatest = 1<<63 - 1
)

func v(n int64) api.Term     { return api.Term{Kind: api.Var, N: n} }
func i(n int64) api.Term     { return api.Term{Kind: api.Int, N: n} }
func a(name string) api.Term { return api.Term{Kind: api.Atom, Name: name} }
func c(name string, args ...api.Term) api.Term {
	return api.Term{Kind: api.Comp, Name: name, Args: args}
}

// of is an atom, or a compound with so many Args.
func of(name string, args int) api.Term {
	if args == 0 {
		return a(name)
	}
	list := make([]api.Term, args)
	for k := range list {
		list[k] = i(int64(k))
	}
	return c(name, list...)
}

func arrow(head, body api.Term) api.Term { return c("-->", head, body) }

// list has some words, and what is behind them.
func list(end api.Term, words ...api.Term) api.Term {
	for k := len(words) - 1; k >= 0; k-- {
		end = c(".", words[k], end)
	}
	return end
}

func same(x, y api.Term) bool {
	if x.Kind != y.Kind || x.N != y.N || x.Name != y.Name || len(x.Args) != len(y.Args) {
		return false
	}
	for k := range x.Args {
		if !same(x.Args[k], y.Args[k]) {
			return false
		}
	}
	return true
}

func isZero(t api.Term) bool { return same(t, api.Term{}) }

// show writes a term for a message, without operators, also one that is none.
func show(t api.Term) string {
	switch {
	case t.Kind == api.Var && t.Name == "" && len(t.Args) == 0:
		return "_" + strconv.FormatInt(t.N, 10)
	case t.Kind == api.Int && t.Name == "" && len(t.Args) == 0:
		return strconv.FormatInt(t.N, 10)
	case t.Kind == api.Atom && t.N == 0 && len(t.Args) == 0:
		return strconv.Quote(t.Name)
	case t.Kind == api.Comp && t.N == 0:
		list := make([]string, len(t.Args))
		for k, arg := range t.Args {
			list[k] = show(arg)
		}
		return strconv.Quote(t.Name) + "(" + strings.Join(list, ",") + ")"
	}
	return "<kind " + strconv.Itoa(t.Kind) + " N " + strconv.FormatInt(t.N, 10) + " name " + strconv.Quote(t.Name) + " args " + strconv.Itoa(len(t.Args)) + ">"
}

// read gives the term of a text.
func read(t *testing.T, s string) api.Term {
	t.Helper()
	got, f := text.ReadTerm(s, text.Default())
	if f.Code != api.OK {
		t.Fatalf("%q: error %d at %d", s, f.Code, f.At)
	}
	return got.Term
}

// printed gives the text of a term.
func printed(x api.Term) string {
	s, err := text.Print(x, text.Default())
	if err != api.OK {
		return show(x)
	}
	return s
}

// reserved is the document's own list.
const reserved = "true/0 fail/0 !/0 ,/2 ;/2 ->/2 \\+/1 call/1 call/2 call/3 call/4 call/5 call/6 call/7 call/8 catch/3 throw/1 findall/3 " +
	"=/2 \\=/2 ==/2 \\==/2 @</2 @>/2 @=</2 @>=/2 compare/3 var/1 nonvar/1 atom/1 integer/1 atomic/1 compound/1 callable/1 ground/1 " +
	"functor/3 arg/3 =../2 copy_term/2 is/2 =:=/2 =\\=/2 </2 >/2 =</2 >=/2 between/3 atom_length/2 atom_chars/2 length/2 sort/2 " +
	"assertz/1 asserta/1 retract/1 print/1 nl/0 :-/1 :-/2 -->/2"

// reservedNames gives the names of the list, some more than once.
func reservedNames() []string {
	var names []string
	for _, s := range strings.Fields(reserved) {
		names = append(names, s[:strings.LastIndexByte(s, '/')])
	}
	return names
}

// isReserved goes by the list alone.
func isReserved(name string, args int) bool {
	return !strings.Contains(name, " ") && strings.Contains(" "+reserved+" ", " "+name+"/"+strconv.Itoa(args)+" ")
}

// otherNames are of no reserved predicate, though some are much like one, or like one of the table's bodies.
func otherNames() []string {
	return []string{"", "a", "s", "phrase", "|", "[]", "{}", ".", "!!", "=.", "\\", "-->>", "[", "[ ]", "Call", "calls", strings.Repeat("x", api.MaxName)}
}

// nones: what is no term, in each way that P3 names.
func nones() []api.Term {
	long := strings.Repeat("x", api.MaxName+1)
	one := []api.Term{i(1)}
	list := []api.Term{
		{}, {Kind: -1}, {Kind: 5}, {Kind: 5, Name: "f", Args: one},
		v(-1), v(least), v(api.MaxVar + 1), v(greatest),
		{Kind: api.Var, Name: "X"}, {Kind: api.Var, Args: one},
		{Kind: api.Int, Name: "1"}, {Kind: api.Int, N: 1, Args: one},
		{Kind: api.Atom, Name: "[]", N: 1}, {Kind: api.Atom, Name: "a", Args: one}, {Kind: api.Atom, Name: "!", Args: one}, a(long),
		{Kind: api.Comp, Name: "f"}, {Kind: api.Comp, Name: "!"}, {Kind: api.Comp, Name: "[]"}, {Kind: api.Comp, Name: "f", Args: []api.Term{}},
		{Kind: api.Comp, Name: "f", N: 1, Args: one}, {Kind: api.Comp, Name: "-->", N: 1, Args: []api.Term{a("s"), a("a")}}, c(long, i(1)), of("f", api.MaxArity+1), of("-->", api.MaxArity+1),
	}
	for _, x := range list[:len(list):len(list)] {
		list = append(list, c("s", x), c(",", x, i(3)), c(",", i(3), x), c(",", a("a"), c("->", v(0), x)), c("{}", x), c("\\+", x), c(".", x, i(1)), c(".", a("a"), x), c("call", x), c("=", x),
			arrow(x, a("a")), arrow(a("s"), x), arrow(i(1), x), arrow(x, i(1)), arrow(a("="), c("s", x)), c("-->", x), c("-->", a("s"), a("a"), x))
	}
	return list
}

// chance is a source of numbers that are the same ones each time.
type chance uint64

func (x *chance) below(n int) int {
	*x = *x*6364136223846793005 + 1442695040888963407
	return int(uint64(*x) >> 33 % uint64(n))
}

func pick[T any](x *chance, list ...T) T {
	return list[x.below(len(list))]
}
