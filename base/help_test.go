package base_test

import (
	"strconv"
	"strings"
	"testing"

	"hornbook/api"
	"hornbook/base"
	"hornbook/text"
)

const (
	least    = -1 << 63
	greatest = 1<<63 - 1
)

func v(n int64) api.Term     { return api.Term{Kind: api.Var, N: n} }
func i(n int64) api.Term     { return api.Term{Kind: api.Int, N: n} }
func a(name string) api.Term { return api.Term{Kind: api.Atom, Name: name} }
func c(name string, args ...api.Term) api.Term {
	return api.Term{Kind: api.Comp, Name: name, Args: args}
}
func rule(head, body api.Term) api.Clause { return api.Clause{Head: head, Body: body} }
func fact(head api.Term) api.Clause       { return rule(head, a("true")) }

// of is an atom, or a compound with so many Args.
func of(name string, args int) api.Term {
	if args == 0 {
		return a(name)
	}
	list := make([]api.Term, args)
	for k := range list {
		list[k] = v(int64(k))
	}
	return c(name, list...)
}

func same(x, y api.Term) bool {
	if x.Kind != y.Kind || x.N != y.N || x.Name != y.Name || len(x.Args) != len(y.Args) {
		return false
	}
	for k := range x.Args {
		if !same(x.Args[k], y.Args[k]) {
			return false
		}
	}
	return true
}

func sameClause(x, y api.Clause) bool { return same(x.Head, y.Head) && same(x.Body, y.Body) }

func isZero(t api.Term) bool         { return same(t, api.Term{}) }
func isZeroClause(x api.Clause) bool { return sameClause(x, api.Clause{}) }

// show writes a term for a message, without operators, also one that is none.
func show(t api.Term) string {
	switch {
	case t.Kind == api.Var && t.Name == "" && len(t.Args) == 0:
		return "_" + strconv.FormatInt(t.N, 10)
	case t.Kind == api.Int && t.Name == "" && len(t.Args) == 0:
		return strconv.FormatInt(t.N, 10)
	case t.Kind == api.Atom && t.N == 0 && len(t.Args) == 0:
		return strconv.Quote(t.Name)
	case t.Kind == api.Comp && t.N == 0:
		list := make([]string, len(t.Args))
		for k, arg := range t.Args {
			list[k] = show(arg)
		}
		return strconv.Quote(t.Name) + "(" + strings.Join(list, ",") + ")"
	}
	return "<kind " + strconv.Itoa(t.Kind) + " N " + strconv.FormatInt(t.N, 10) + " name " + strconv.Quote(t.Name) + " args " + strconv.Itoa(len(t.Args)) + ">"
}

func showClause(x api.Clause) string { return show(x.Head) + " if " + show(x.Body) }

// read gives the term of a text.
func read(t *testing.T, s string) api.Term {
	t.Helper()
	got, f := text.ReadTerm(s, text.Default())
	if f.Code != api.OK {
		t.Fatalf("%q: error %d at %d", s, f.Code, f.At)
	}
	return got.Term
}

// made gives the clause of a text.
func made(t *testing.T, s string) api.Clause {
	t.Helper()
	got, err := base.Make(read(t, s))
	if err != api.OK {
		t.Fatalf("%q: %v", s, err)
	}
	return got
}

// filled gives a base with the clauses of some texts, with the ids from 1 on.
func filled(t *testing.T, list ...string) *base.Base {
	t.Helper()
	b := base.New()
	for k, s := range list {
		if id, err := b.Add(made(t, s), false); id != k+1 || err != api.OK {
			t.Fatalf("%q: %d, %v", s, id, err)
		}
	}
	return b
}

// reserved is the document's own list.
const reserved = "true/0 fail/0 !/0 ,/2 ;/2 ->/2 \\+/1 call/1 call/2 call/3 call/4 call/5 call/6 call/7 call/8 catch/3 throw/1 findall/3 " +
	"=/2 \\=/2 ==/2 \\==/2 @</2 @>/2 @=</2 @>=/2 compare/3 var/1 nonvar/1 atom/1 integer/1 atomic/1 compound/1 callable/1 ground/1 " +
	"functor/3 arg/3 =../2 copy_term/2 is/2 =:=/2 =\\=/2 </2 >/2 =</2 >=/2 between/3 atom_length/2 atom_chars/2 length/2 sort/2 " +
	"assertz/1 asserta/1 retract/1 print/1 nl/0 :-/1 :-/2 -->/2"

// reservedNames gives the names of the list, some more than once.
func reservedNames() []string {
	var list []string
	for _, s := range strings.Fields(reserved) {
		list = append(list, s[:strings.LastIndexByte(s, '/')])
	}
	return list
}

// isReserved goes by the list alone.
func isReserved(name string, args int) bool {
	return !strings.Contains(name, " ") && strings.Contains(" "+reserved+" ", " "+name+"/"+strconv.Itoa(args)+" ")
}

// otherNames are of no reserved predicate, though some are much like one.
func otherNames() []string {
	return []string{"", "a", "p", "foo", "True", "true ", " true", "fail\x00", "false", "!!", ",,", "|", "->>", "*->", "not", "Call", "calls", "cal", "once", "=.", "=...", "=", "=<=", "<=", "=>", "@", "@=", "\\", "\\===", "===", "write", "print ", "assert", "retractall", "nl\n", ":", "-", ":--", "--->", "?-", "[]", "{}", ".", "number", "ground/1", "0", "1", "call/1", strings.Repeat("x", api.MaxName), strings.Repeat("x", api.MaxName+1)}
}

// naiveBody: what the document says of Body, word by word.
func naiveBody(t api.Term) (api.Term, bool) {
	switch t.Kind {
	case api.Var:
		return c("call", t), true
	case api.Int:
		return api.Term{}, false
	}
	for _, name := range []string{",", ";", "->"} {
		if t.Kind == api.Comp && t.Name == name && len(t.Args) == 2 {
			left, ok := naiveBody(t.Args[0])
			right, also := naiveBody(t.Args[1])
			return c(name, left, right), ok && also
		}
	}
	return t, true
}

// naiveMake: what the document says of Make, word by word.
func naiveMake(t api.Term) (api.Clause, bool) {
	head, body := t, a("true")
	if t.Kind == api.Comp && t.Name == ":-" && len(t.Args) == 2 {
		head = t.Args[0]
		var ok bool
		if body, ok = naiveBody(t.Args[1]); !ok {
			return api.Clause{}, false
		}
	}
	if head.Kind == api.Var || head.Kind == api.Int || isReserved(head.Name, len(head.Args)) {
		return api.Clause{}, false
	}
	var met []int64
	head, met = numbered(head, met)
	body, _ = numbered(body, met)
	return rule(head, body), true
}

// numbered gives each variable the place at which it was met first.
func numbered(t api.Term, met []int64) (api.Term, []int64) {
	if t.Kind == api.Var {
		for k, n := range met {
			if n == t.N {
				return v(int64(k)), met
			}
		}
		return v(int64(len(met))), append(met, t.N)
	}
	var args []api.Term
	for _, arg := range t.Args {
		arg, met = numbered(arg, met)
		args = append(args, arg)
	}
	t.Args = args
	return t, met
}

// letsThrough: what the document says of the first Arg of a clause of the goal's predicate, word by word.
func letsThrough(head, goal api.Term) bool {
	if head.Name != goal.Name || len(head.Args) != len(goal.Args) {
		return false
	}
	if len(head.Args) == 0 {
		return true
	}
	x, y := head.Args[0], goal.Args[0]
	if x.Kind == api.Var || y.Kind == api.Var {
		return true
	}
	return x.Kind == y.Kind && x.N == y.N && x.Name == y.Name && len(x.Args) == len(y.Args)
}

// nones: what is no term, in each way that P3 names.
func nones() []api.Term {
	long := strings.Repeat("x", api.MaxName+1)
	one := []api.Term{i(1)}
	many := make([]api.Term, api.MaxArity+1)
	for k := range many {
		many[k] = i(1)
	}
	list := []api.Term{
		{}, {Kind: -1}, {Kind: 5}, {Kind: 5, Name: "f", Args: one},
		v(-1), v(least), v(api.MaxVar + 1), v(greatest),
		{Kind: api.Var, Name: "X"}, {Kind: api.Var, Args: one},
		{Kind: api.Int, Name: "1"}, {Kind: api.Int, N: 1, Args: one},
		{Kind: api.Atom, Name: "a", N: 1}, {Kind: api.Atom, Name: "a", Args: one}, {Kind: api.Atom, Name: "true", N: 1}, a(long),
		{Kind: api.Comp, Name: "f"}, {Kind: api.Comp, Name: "true"}, {Kind: api.Comp, Name: "f", Args: []api.Term{}},
		{Kind: api.Comp, Name: "f", N: 1, Args: one}, {Kind: api.Comp, Name: ",", N: 1, Args: []api.Term{i(1), i(1)}}, c(long, i(1)), c("f", many...), c(":-", many...), c(":-", a("a"), a("b"), api.Term{}),
	}
	for _, x := range list[:len(list):len(list)] {
		list = append(list, c("p", x), c("p", v(0), c("g", x)), c(",", x, i(3)), c(",", i(3), x), c(",", a("a"), c("->", v(0), x)),
			c(":-", x, a("a")), c(":-", a("a"), x), c(":-", i(1), x), c(":-", x, i(1)), c(":-", a("p"), c(",", i(3), x)), c("call", x), c("true", x))
	}
	return list
}

// chance is a source of numbers that are the same ones each time.
type chance uint64

func (x *chance) below(n int) int {
	*x = *x*6364136223846793005 + 1442695040888963407
	return int(uint64(*x) >> 33 % uint64(n))
}

func pick[T any](x *chance, list []T) T {
	return list[x.below(len(list))]
}

// term is often of a reserved predicate, or of one that has a reserved name.
func (x *chance) term(deep int) api.Term {
	switch k := x.below(8); {
	case k < 2:
		return v(int64(pick(x, []int64{0, 1, 2, 3, 9, api.MaxVar})))
	case k == 2 && x.below(2) == 0:
		return i(int64(x.below(3)))
	case k < 5 || deep == 0:
		return a(pick(x, []string{"a", "b", "true", "!", "nl", ",", ":-", "call", "[]"}))
	}
	args := make([]api.Term, 1+x.below(3))
	for k := range args {
		args[k] = x.term(deep - 1)
	}
	return c(pick(x, []string{"f", "g", ",", ";", "->", ":-", "call", "\\+", "is", "-->", "findall"}), args...)
}

// body has control goals to its depth.
func (x *chance) body(deep int) api.Term {
	if deep == 0 || x.below(4) == 0 {
		return x.term(2)
	}
	return c(pick(x, []string{",", ";", "->"}), x.body(deep-1), x.body(deep-1))
}

// sentence is mostly one that a clause is made of.
func (x *chance) sentence() api.Term {
	if x.below(3) == 0 {
		return x.term(3)
	}
	return c(":-", x.term(2), x.body(3))
}
