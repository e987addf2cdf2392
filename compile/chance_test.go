package compile_test

import (
	"testing"

	"hornbook/api"
	"hornbook/base"
	"hornbook/compile"
)

// grown is some bodies, and all that control goals make of one or two of them.
func grown(l []api.Term) []api.Term {
	all := append([]api.Term(nil), l...)
	for _, x := range l {
		all = append(all, c("\\+", x))
		for _, y := range l {
			all = append(all, c(",", x, y), c(";", x, y), c("->", x, y))
		}
	}
	return all
}

// TestAllSmallBodies: each body of few goals, as that of a clause that has another behind it, and as a query.
func TestAllSmallBodies(t *testing.T) {
	t.Parallel()
	goals := grown(grown([]api.Term{c("q", v(0)), a("!"), a("fail"), c("print", v(0))}))
	l := program(t, "q(1). q(X) :- X = 2. t(9,0).")
	call := read(t, "q(Y), print(Y), t(X,Y), print(X)")
	for _, body := range goals {
		one := []api.Clause{l[0], l[1], made(t, c(":-", c("t", v(0), v(1)), body)), l[2]}
		held(t, one, call, 200, 12)
		held(t, l, c(",", c("q", v(1)), body), 200, 12)
	}
}

// branching is a body of control goals, most of them deep.
func (x *chance) branching(deep int) api.Term {
	if deep == 0 || x.below(6) == 0 {
		return pick(x, c("q", v(0)), c("q", v(1)), c("=", v(0), i(2)), c("==", v(0), v(1)), c("print", v(0)), a("!"), a("!"), a("fail"), a("true"))
	}
	one, other := x.branching(deep-1), x.branching(deep-1)
	switch x.below(8) {
	case 0:
		return c("\\+", one)
	case 1, 2:
		return c(";", one, other)
	case 3:
		return c("->", one, other)
	case 4:
		return c(";", c("->", one, other), x.branching(deep-1))
	}
	return c(",", one, other)
}

// TestChanceOfBranches: bodies of control goals within one another, with cuts among them.
func TestChanceOfBranches(t *testing.T) {
	t.Parallel()
	x := chance(5)
	l := program(t, "q(1). q(X) :- X = 2. q(3). t(9,0).")
	for range 20000 {
		one := append(l[:3:3], made(t, c(":-", c("t", v(0), v(1)), x.branching(4))), l[3])
		held(t, one, read(t, "q(Y), print(Y), t(X,Y), print(X)"), 200, 12)
		held(t, l, c(",", c("q", v(1)), x.branching(4)), 200, 12)
	}
}

// data is a term that goals are about.
func (x *chance) data(deep int) api.Term {
	switch k := x.below(14); {
	case k < 6:
		return v(int64(x.below(5)))
	case k < 8:
		return i(int64(x.below(3)))
	case k < 10 || deep == 0:
		return a(pick(x, "a", "b", "[]", "true"))
	case k < 12:
		return c("f", x.data(deep-1))
	}
	return c(pick(x, "g", ".", "+", "f", ","), x.data(deep-1), x.data(deep-1))
}

// goal is often a control goal, to its depth.
func (x *chance) goal(deep int) api.Term {
	if deep > 0 && x.below(3) > 0 {
		return x.control(deep - 1)
	}
	switch k := x.below(24); {
	case k < 2:
		return a("p")
	case k < 7:
		return c("q", x.data(1))
	case k < 11:
		return c("r", x.data(1), x.data(2))
	case k < 13:
		return a(pick(x, "true", "fail", "!", "!", "!"))
	case k < 17:
		return c("=", x.data(1), x.data(2))
	case k < 19:
		return c("print", x.data(2))
	case k < 20 && x.below(3) == 0:
		return pick(x, c("throw", x.data(1)), c("u", x.data(1)), a("nl"))
	}
	return x.builtin()
}

func (x *chance) builtin() api.Term {
	switch x.below(7) {
	case 0:
		return c(pick(x, "var", "nonvar", "atom", "integer", "atomic", "compound", "callable", "ground"), x.data(1))
	case 1:
		return c(pick(x, "copy_term", "=..", "copy_term", "length"), x.data(2), x.data(2))
	case 2:
		return c("functor", x.data(2), x.data(0), x.data(0))
	case 3:
		return c("is", v(int64(x.below(5))), c("+", i(int64(x.below(3))), pick(x, i(1), i(2), v(0))))
	case 4:
		return c(pick(x, "=:=", "<", ">="), i(int64(x.below(3))), pick(x, i(1), v(int64(x.below(5)))))
	}
	return c(pick(x, "==", "\\==", "\\=", "\\=", "@<"), x.data(1), x.data(1))
}

func (x *chance) control(deep int) api.Term {
	switch x.below(12) {
	case 0, 1, 2, 3:
		return c(",", x.goal(deep), x.goal(deep))
	case 4, 5, 6:
		return c(";", x.goal(deep), x.goal(deep))
	case 7, 8:
		return c(";", c("->", x.goal(deep), x.goal(deep)), x.goal(deep))
	case 9:
		return c("->", x.goal(deep), x.goal(deep))
	}
	return c("\\+", x.goal(deep))
}

func (x *chance) clause(t *testing.T) api.Clause {
	head := pick(x, a("p"), c("q", x.data(1)), c("q", x.data(2)), c("r", x.data(1), x.data(1)), c("r", x.data(2), x.data(2)))
	if x.below(5) < 2 {
		return made(t, head)
	}
	return made(t, c(":-", head, x.goal(3)))
}

func (x *chance) program(t *testing.T) []api.Clause {
	var l []api.Clause
	for range 2 + x.below(8) {
		l = append(l, x.clause(t))
	}
	return l
}

const rounds = 40000

// TestChance holds machines against searches of many programs.
func TestChance(t *testing.T) {
	t.Parallel()
	x := chance(10)
	kinds := map[int]int{}
	for range rounds {
		for _, kind := range held(t, x.program(t), x.goal(3), 120, 8) {
			kinds[kind]++
		}
	}
	for _, kind := range []int{api.Answer, api.None, api.Thrown, api.Out} {
		if kinds[kind] < rounds/20 {
			t.Error("kind", kind, "came but", kinds[kind], "times")
		}
	}
}

// TestChanceOfErrors: of clauses and queries of all kinds there is the error that the document tells, worked out anew here.
func TestChanceOfErrors(t *testing.T) {
	t.Parallel()
	x := chance(23)
	wrong := append(nones()[:30], v(0), i(1), read(t, "call(a)"), read(t, "\\+ X"), read(t, "\\+ 1"), read(t, "(a :- b)"), read(t, "(X , 1)"), read(t, "(a -> X)"), read(t, "\\+ (a ; findall(X,a,L))"))
	met := map[api.Errno]int{}
	for range 40000 {
		l, query := x.program(t), x.goal(2)
		for range x.below(3) {
			k, w := x.below(len(l)), pick(&x, wrong...)
			switch x.below(5) {
			case 0:
				l[k].Head = w
			case 1:
				l[k].Body = w
			case 2:
				l[k].Body = c(pick(&x, ",", ";", "->"), a("a"), w)
			case 3:
				query = w
			case 4:
				query = c(pick(&x, ",", ";", "->", "\\+", "p"), w)
				if x.below(2) == 0 {
					query.Args = append(query.Args, a("a"))
				}
			}
		}
		want := expected(l, query)
		got, err := compile.Compile(l, query)
		if err != want || isZero(got) != (err != api.OK) {
			t.Fatalf("%s of %s: %v, not %v", show(query), showClauses(l), err, want)
		}
		met[err]++
	}
	for _, err := range []api.Errno{api.OK, api.ErrTerm, api.ErrClause, api.ErrKind} {
		if met[err] < 1000 {
			t.Error(err, "came but", met[err], "times")
		}
	}
}

// expected is the error of clauses and a query that are not large.
func expected(l []api.Clause, query api.Term) api.Errno {
	body, err := base.Body(query)
	if err == api.ErrTerm {
		return err
	}
	for _, x := range l {
		if _, err := base.Plain(x); err != api.OK {
			return err
		}
	}
	if err != api.OK {
		return err
	}
	for _, x := range append([]api.Clause{{Body: body}}, l...) {
		if !canBe(x.Body) {
			return api.ErrKind
		}
	}
	return api.OK
}

// canBe is P23's word on bodies.
func canBe(t api.Term) bool {
	is := func(name string, args int) bool { return t.Name == name && len(t.Args) == args }
	switch {
	case is(",", 2), is(";", 2), is("->", 2):
		return canBe(t.Args[0]) && canBe(t.Args[1])
	case is("\\+", 1):
		body, err := base.Body(t.Args[0])
		return err == api.OK && canBe(body)
	case is("true", 0), is("fail", 0), is("!", 0):
		return true
	}
	for _, x := range []struct {
		name string
		args int
	}{{"call", len(t.Args)}, {"catch", 3}, {"findall", 3}, {"between", 3}, {"assertz", 1}, {"asserta", 1}, {"retract", 1}, {":-", 1}, {":-", 2}, {"-->", 2}} {
		if is(x.name, x.args) && base.Reserved(x.name, x.args) {
			return false
		}
	}
	return true
}
