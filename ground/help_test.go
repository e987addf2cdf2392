package ground_test

import (
	"strconv"
	"strings"
	"testing"

	"hornbook/api"
	"hornbook/base"
	"hornbook/text"
)

const (
	least    = -1 << 63
	greatest = 1<<63 - 1
)

func v(n int64) api.Term     { return api.Term{Kind: api.Var, N: n} }
func i(n int64) api.Term     { return api.Term{Kind: api.Int, N: n} }
func a(name string) api.Term { return api.Term{Kind: api.Atom, Name: name} }
func c(name string, args ...api.Term) api.Term {
	return api.Term{Kind: api.Comp, Name: name, Args: args}
}
func rule(head, body api.Term) api.Clause { return api.Clause{Head: head, Body: body} }
func fact(head api.Term) api.Clause       { return rule(head, a("true")) }
func isCallable(t api.Term) bool          { return t.Kind == api.Atom || t.Kind == api.Comp }
func isOf(t api.Term, name string, args int) bool {
	return isCallable(t) && t.Name == name && len(t.Args) == args
}

func same(x, y api.Term) bool {
	if x.Kind != y.Kind || x.N != y.N || x.Name != y.Name || len(x.Args) != len(y.Args) {
		return false
	}
	for k := range x.Args {
		if !same(x.Args[k], y.Args[k]) {
			return false
		}
	}
	return true
}

// show writes a term for a message, without operators, also one that is none.
func show(t api.Term) string {
	switch {
	case t.Kind == api.Var && t.Name == "" && len(t.Args) == 0:
		return "_" + strconv.FormatInt(t.N, 10)
	case t.Kind == api.Int && t.Name == "" && len(t.Args) == 0:
		return strconv.FormatInt(t.N, 10)
	case t.Kind == api.Atom && t.N == 0 && len(t.Args) == 0:
		return strconv.Quote(t.Name)
	case t.Kind == api.Comp && t.N == 0:
		l := make([]string, len(t.Args))
		for k, arg := range t.Args {
			l[k] = show(arg)
		}
		return strconv.Quote(t.Name) + "(" + strings.Join(l, ",") + ")"
	}
	return "<kind " + strconv.Itoa(t.Kind) + " N " + strconv.FormatInt(t.N, 10) + " name " + strconv.Quote(t.Name) + " args " + strconv.Itoa(len(t.Args)) + ">"
}

// showShapes writes each predicate with its rows.
func showShapes(l []api.Shape) string {
	out := make([]string, len(l))
	for k, x := range l {
		out[k] = x.Name + "/" + strconv.Itoa(x.N) + ":"
		for _, row := range x.Rows {
			out[k] += " " + strconv.Itoa(row)
		}
	}
	return strings.Join(out, "; ")
}

func showClauses(l []api.Clause) string {
	out := ""
	for k, x := range l {
		out += strconv.Itoa(k) + ": " + show(x.Head) + " if " + show(x.Body) + "\n"
	}
	return out
}

// read gives the term of a text.
func read(t *testing.T, s string) api.Term {
	t.Helper()
	got, f := text.ReadTerm(s, text.Default())
	if f.Code != api.OK {
		t.Fatalf("%q: error %d at %d", s, f.Code, f.At)
	}
	return got.Term
}

// readAll gives the terms of a text.
func readAll(t *testing.T, s string) []api.Term {
	t.Helper()
	got, f := text.Read(s, text.Default())
	if f.Code != api.OK {
		t.Fatalf("%q: error %d at %d", s, f.Code, f.At)
	}
	var l []api.Term
	for _, x := range got {
		l = append(l, x.Term)
	}
	return l
}

// clauses gives those of a text.
func clauses(t *testing.T, s string) []api.Clause {
	t.Helper()
	var l []api.Clause
	for _, x := range readAll(t, s) {
		made, err := base.Make(x)
		if err != api.OK {
			t.Fatalf("%s: %v", show(x), err)
		}
		l = append(l, made)
	}
	return l
}

// reserved is the document's own list.
const reserved = "true/0 fail/0 !/0 ,/2 ;/2 ->/2 \\+/1 call/1 call/2 call/3 call/4 call/5 call/6 call/7 call/8 catch/3 throw/1 findall/3 " +
	"=/2 \\=/2 ==/2 \\==/2 @</2 @>/2 @=</2 @>=/2 compare/3 var/1 nonvar/1 atom/1 integer/1 atomic/1 compound/1 callable/1 ground/1 " +
	"functor/3 arg/3 =../2 copy_term/2 is/2 =:=/2 =\\=/2 </2 >/2 =</2 >=/2 between/3 atom_length/2 atom_chars/2 length/2 sort/2 " +
	"assertz/1 asserta/1 retract/1 print/1 nl/0 :-/1 :-/2 -->/2"

// isReserved goes by the list alone.
func isReserved(t api.Term) bool {
	return isCallable(t) && !strings.Contains(t.Name, " ") && strings.Contains(" "+reserved+" ", " "+t.Name+"/"+strconv.Itoa(len(t.Args))+" ")
}

// of is an atom, or a compound with so many Args.
func of(name string, args int) api.Term {
	if args == 0 {
		return a(name)
	}
	l := make([]api.Term, args)
	for k := range l {
		l[k] = a("a")
	}
	return c(name, l...)
}

// likeReserved gives a term of each reserved predicate, and of each of those names with other numbers of Args.
func likeReserved() (are, arent []api.Term) {
	for _, s := range strings.Fields(reserved) {
		for args := range 11 {
			t := of(s[:strings.LastIndexByte(s, '/')], args)
			if isReserved(t) {
				are = append(are, t)
			} else {
				arent = append(arent, t)
			}
		}
	}
	return are, arent
}

// nones: what is no term, in each way that P3 names.
func nones() []api.Term {
	long := strings.Repeat("x", api.MaxName+1)
	one := []api.Term{i(1)}
	many := make([]api.Term, api.MaxArity+1)
	for k := range many {
		many[k] = i(1)
	}
	l := []api.Term{
		{}, {Kind: -1}, {Kind: 5}, {Kind: 5, Name: "f", Args: one},
		v(-1), v(least), v(api.MaxVar + 1), v(greatest),
		{Kind: api.Var, Name: "X"}, {Kind: api.Var, Args: one},
		{Kind: api.Int, Name: "1"}, {Kind: api.Int, N: 1, Args: one},
		{Kind: api.Atom, Name: "a", N: 1}, {Kind: api.Atom, Name: "a", Args: one}, {Kind: api.Atom, Name: "true", N: 1}, a(long),
		{Kind: api.Comp, Name: "f"}, {Kind: api.Comp, Name: "true"}, {Kind: api.Comp, Name: "f", Args: []api.Term{}},
		{Kind: api.Comp, Name: "f", N: 1, Args: one}, {Kind: api.Comp, Name: ",", N: 1, Args: []api.Term{a("a"), a("b")}}, c(long, i(1)), c("f", many...), c(":-", many...),
	}
	for _, x := range l[:len(l):len(l)] {
		l = append(l, c("p", x), c("p", v(0), c("g", x)), c(",", x, i(3)), c(",", i(3), x), c(",", a("a"), c(",", v(0), x)), c("call", x), c("true", x))
	}
	return l
}

// chance is a source of numbers that are the same ones each time.
type chance uint64

func (x *chance) below(n int) int {
	*x = *x*6364136223846793005 + 1442695040888963407
	return int(uint64(*x) >> 33 % uint64(n))
}

func pick[T any](x *chance, l ...T) T {
	return l[x.below(len(l))]
}

// joined is the body of some goals.
func joined(l ...api.Term) api.Term {
	if len(l) == 0 {
		return a("true")
	}
	body := l[len(l)-1]
	for k := len(l) - 2; k >= 0; k-- {
		body = c(",", l[k], body)
	}
	return body
}

// made is the clause of a head and some goals, its variables numbered as they must be.
func made(t *testing.T, head api.Term, goals ...api.Term) api.Clause {
	t.Helper()
	x, err := base.Make(c(":-", head, joined(goals...)))
	if err != api.OK {
		t.Fatalf("%s: %v", show(head), err)
	}
	return x
}

// vars are so many variables, from 0 on.
func vars(n int) []api.Term {
	l := make([]api.Term, n)
	for k := range l {
		l[k] = v(int64(k))
	}
	return l
}

// order of so many.
func (x *chance) order(n int) []int {
	l := make([]int, n)
	for k := range l {
		m := x.below(k + 1)
		l[k], l[m] = l[m], k
	}
	return l
}
