package solve_test

import (
	"strconv"
	"testing"

	"hornbook/api"
	"hornbook/base"
	"hornbook/solve"
)

// data is a term that goals are about.
func (x *chance) data(deep int) api.Term {
	switch k := x.below(14); {
	case k < 5:
		return v(int64(x.below(4)))
	case k < 7:
		return i(int64(x.below(4)))
	case k < 9 || deep == 0:
		return a(pick(x, "a", "b", "ab", "[]", "<", "true", "p"))
	case k < 11:
		return c("f", x.data(deep-1))
	case k < 13:
		return x.listOf(deep - 1)
	}
	return c(pick(x, "g", "+", "-", ":-", ",", "q"), x.data(deep-1), x.data(deep-1))
}

func (x *chance) listOf(deep int) api.Term {
	t := a("[]")
	if x.below(5) == 0 {
		t = v(int64(x.below(4)))
	}
	for range x.below(4) {
		t = c(".", x.data(deep), t)
	}
	return t
}

// number is mostly one that can be reckoned.
func (x *chance) number(deep int) api.Term {
	switch k := x.below(8); {
	case k < 3 || deep == 0:
		return i(int64(x.below(4)))
	case k < 5:
		return v(int64(x.below(4)))
	case k == 5 && x.below(3) == 0:
		return x.data(1)
	}
	return c(pick(x, "+", "-", "*", "//", "mod"), x.number(deep-1), x.number(deep-1))
}

// goal is often a control goal, to its depth.
func (x *chance) goal(deep int) api.Term {
	if deep > 0 && x.below(3) > 0 {
		return x.control(deep - 1)
	}
	switch k := x.below(20); {
	case k < 2:
		return a("p")
	case k < 5:
		return c("q", x.data(1))
	case k < 7:
		return c("r", x.data(1), x.data(1))
	case k < 8:
		return a(pick(x, "true", "fail", "!", "!", "nl"))
	case k < 11:
		return c("=", x.data(1), x.data(2))
	case k < 12:
		return c("print", x.data(2))
	case k < 13:
		return c("throw", x.data(1))
	case k < 14:
		return c("between", x.number(0), x.number(0), v(int64(x.below(4))))
	case k < 15:
		return c(pick(x, "assertz", "asserta", "retract"), x.clause())
	}
	return x.builtin()
}

func (x *chance) builtin() api.Term {
	switch x.below(9) {
	case 0:
		return c(pick(x, "var", "nonvar", "atom", "integer", "atomic", "compound", "callable", "ground"), x.data(1))
	case 1:
		return c(pick(x, "=..", "copy_term", "atom_length", "atom_chars", "length", "sort"), x.data(2), x.data(2))
	case 2:
		return c(pick(x, "=..", "atom_chars", "length", "sort"), x.listOf(1), x.data(1))
	case 3:
		return c(pick(x, "=..", "atom_chars"), v(int64(x.below(4))), x.listOf(0))
	case 4:
		return c(pick(x, "functor", "arg", "compare", "between"), x.data(1), x.data(2), x.data(1))
	case 5:
		return c("is", v(int64(x.below(4))), x.number(2))
	case 6:
		return c(pick(x, "=:=", "=\\=", "<", ">", "=<", ">="), x.number(1), x.number(1))
	case 7:
		return c(pick(x, "==", "\\==", "\\=", "@<", "@>", "@=<", "@>="), x.data(1), x.data(1))
	}
	return pick(x, v(int64(x.below(4))), i(1), c("u", x.data(1)), c(":-", x.data(1)), c("-->", x.data(1), x.data(1)), c("call", v(1), v(2), v(3)))
}

func (x *chance) control(deep int) api.Term {
	switch x.below(16) {
	case 0, 1, 2, 3, 4:
		return c(",", x.goal(deep), x.goal(deep))
	case 5, 6, 7:
		return c(";", x.goal(deep), x.goal(deep))
	case 8, 9:
		return c(";", c("->", x.goal(deep), x.goal(deep)), x.goal(deep))
	case 10:
		return c("->", x.goal(deep), x.goal(deep))
	case 11:
		return c("\\+", x.goal(deep))
	case 12:
		return c("findall", x.data(1), x.goal(deep), x.data(1))
	case 13, 14:
		return c("catch", x.goal(deep), x.data(1), pick(x, x.goal(deep), x.data(0)))
	}
	if x.below(2) == 0 {
		return c("call", x.goal(deep))
	}
	return c("call", pick(x, a("q"), a("r"), c("r", x.data(0)), a(","), a("="), a("call"), v(0), i(1)), x.data(1), x.goal(deep))
}

// clause is one of p, q, or r, or now and then none.
func (x *chance) clause() api.Term {
	head := pick(x, a("p"), c("q", x.data(1)), c("q", x.data(2)), c("r", x.data(1), x.data(1)), c("r", x.data(1), x.data(2)))
	if x.below(12) == 0 {
		head = x.data(1)
	}
	switch x.below(5) {
	case 0, 1:
		return head
	case 2:
		return c(":-", head, v(int64(x.below(4))))
	}
	return c(":-", head, x.goal(2))
}

// program lays clauses down in two bases.
func (x *chance) program() (one, other *base.Base) {
	one, other = base.New(), base.New()
	for range 3 + x.below(7) {
		if got, err := base.Make(x.clause()); err == api.OK {
			one.Add(got, false)
			other.Add(got, false)
		}
	}
	return one, other
}

const rounds = 20000

// TestChance holds all that searches tell of many programs against what the document says, word by word.
func TestChance(t *testing.T) {
	t.Parallel()
	x := chance(16)
	kinds := map[int]int{}
	for round := range rounds {
		held(t, &x, round, kinds)
	}
	for _, kind := range []int{api.Answer, api.None, api.Thrown, api.Out} {
		if kinds[kind] < rounds/10 {
			t.Error("kind", strconv.Itoa(kind), "came but", kinds[kind], "times")
		}
	}
}

// held makes a program and a query, and holds the outcomes against each other.
func held(t *testing.T, x *chance, round int, kinds map[int]int) {
	own, theirs := x.program()
	program := clausesOf(t, own)
	query := x.goal(3)
	s, err := solve.New(own, query)
	m, wantErr := newMeaning(theirs, query)
	if err != wantErr || (s == nil) != (err != api.OK) {
		t.Fatalf("round %d: %s: %v, not %v", round, show(query), err, wantErr)
	}
	if err != api.OK {
		return
	}
	defer func() {
		if e := recover(); e != nil && e != any(tooGreat{}) {
			t.Fatalf("round %d: of %s\n%s\n%v", round, program, printed(t, query), e)
		}
	}()
	for k := range 7 {
		steps := pick(x, 150, 150, 150, 150, 150, 40, 12, x.below(8), -x.below(3))
		want := m.next(steps)
		got := s.Next(steps)
		if showOutcome(got) != showOutcome(want) {
			t.Fatalf("round %d, outcome %d with %d steps: of %s\n%s\n%s\nnot\n%s", round, k, steps, program, printed(t, query), showOutcome(got), showOutcome(want))
		}
		kinds[got.Kind]++
	}
	if got, want := clausesOf(t, own), clausesOf(t, theirs); got != want {
		t.Fatalf("round %d: of %s %s leaves %s, not %s", round, program, printed(t, query), got, want)
	}
}
