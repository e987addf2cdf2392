package machine_test

import (
	"testing"

	"hornbook/api"
)

func (x *chance) constant() api.Constant {
	return pick(x, atom("a"), atom("a"), atom("b"), atom("[]"), number(0), number(1), number(2))
}

func (x *chance) compound() api.Constant {
	return pick(x, pred("f", 1), pred("f", 1), pred("g", 2), pred("g", 2), pred(".", 2), pred("+", 2), pred("f", 3), pred("h", 4))
}

func (x *chance) called() api.Constant {
	return pick(x, pred("p", 0), pred("p", 0), pred("q", 1), pred("q", 1), pred("r", 2), pred("r", 2), pred("r", 2), pred("s", 1))
}

func (x *chance) builtin() api.Constant {
	return pick(x, pred("=", 2), pred("=", 2), pred("\\=", 2), pred("==", 2), pred("print", 1), pred("print", 1), pred("nl", 0), pred("is", 2), pred("var", 1), pred("nonvar", 1), pred("ground", 1),
		pred("copy_term", 2), pred("functor", 3), pred("arg", 3), pred("=..", 2), pred("compare", 3), pred("@<", 2), pred("<", 2), pred("throw", 1), pred("length", 2), pred("sort", 2), pred("atom_length", 2), pred("atom_chars", 2))
}

// place is mostly one that lies behind: so that more comes to an end.
func (x *chance) place(at, n int) int {
	if x.below(4) == 0 {
		return x.below(n)
	}
	return min(at+1+x.below(6), n-1)
}

// instr is mostly one that asks for a part, where parts are left.
func (x *chance) instr(at, n int, parts bool) api.Instr {
	arg, slot := x.below(3), x.below(4)
	if x.below(20) == 0 {
		arg, slot = api.MaxArity-1, api.MaxSlots-1
	}
	if parts && x.below(4) > 0 {
		return pick(x, api.Instr{Op: api.SubVar, A: slot}, api.Instr{Op: api.SubVal, A: slot}, api.Instr{Op: api.SubVal, A: slot}, api.Instr{Op: api.SubConst, Con: x.constant()},
			api.Instr{Op: api.SubComp, Con: x.compound()}, api.Instr{Op: api.SubVoid, A: 1 + x.below(2)})
	}
	switch k := x.below(40); {
	case k < 8:
		return api.Instr{Op: pick(x, api.GetVar, api.GetVar, api.GetVal, api.PutVar, api.PutVal, api.PutVal), A: arg, B: slot}
	case k < 11:
		return api.Instr{Op: pick(x, api.GetConst, api.PutConst), A: arg, Con: x.constant()}
	case k < 19:
		return api.Instr{Op: pick(x, api.GetComp, api.PutComp), A: arg, Con: x.compound()}
	case k < 23:
		return api.Instr{Op: pick(x, api.Call, api.Call, api.Last), Con: x.called()}
	case k < 26:
		return api.Instr{Op: api.Back}
	case k < 27:
		return api.Instr{Op: api.Fail}
	case k < 32:
		return api.Instr{Op: pick(x, api.Try, api.Try, api.Try, api.Jump), A: x.place(at, n)}
	case k < 35:
		return api.Instr{Op: pick(x, api.Level, api.Mark, api.Cut, api.Cut), A: slot}
	case k < 38:
		return api.Instr{Op: api.Builtin, Con: x.builtin()}
	case k < 39:
		return api.Instr{Op: api.UnlessConst, A: x.place(at, n), Con: x.constant()}
	}
	return api.Instr{Op: api.UnlessComp, A: x.place(at, n), Con: x.compound()}
}

// code is of some instructions, with most of the predicates that are called.
func (x *chance) code() api.Code {
	var l api.Code
	n := 8 + x.below(40)
	parts := 0
	for at := range n - 1 {
		next := x.instr(at, n, parts > 0)
		switch next.Op {
		case api.GetComp, api.PutComp:
			parts = int(next.Con.N)
		case api.SubComp:
			parts += int(next.Con.N) - 1
		case api.SubVar, api.SubVal, api.SubConst:
			parts--
		case api.SubVoid:
			parts -= next.A
		}
		l.Instrs = append(l.Instrs, next)
	}
	l.Instrs = append(l.Instrs, pick(x, api.Instr{Op: api.Back}, api.Instr{Op: api.Fail}, api.Instr{Op: api.Jump, A: x.below(n)}, api.Instr{Op: api.Last, Con: x.called()}))
	for k, name := range []string{"p", "q", "r", "s"} {
		if k < 3 || x.below(3) == 0 {
			l.Entries = append(l.Entries, api.Entry{Name: name, N: []int{0, 1, 2, 1}[k], At: x.below(n)})
		}
	}
	l.Query = pick(x, 0, 0, 0, x.below(n))
	return l
}

func (x *chance) query() api.Term {
	return pick(x, a("a"), v(7), c("p", v(3)), c("p", v(3), v(3)), c("q", v(9), c("f", v(2)), v(9), i(1)), c("q", v(1), v(0)), c("q", v(1), v(0), v(8)))
}

const rounds = 60000

// TestChance holds all that machines tell of much code against what the document says, word by word.
func TestChance(t *testing.T) {
	t.Parallel()
	x := chance(21)
	kinds := map[int]int{}
	for round := range rounds {
		heldAgainst(t, round, x.code(), x.query(), &x, kinds)
	}
	for _, kind := range []int{api.Answer, api.None, api.Thrown, api.Out} {
		if kinds[kind] < rounds/10 {
			t.Error("kind", kind, "came but", kinds[kind], "times")
		}
	}
}

// heldAgainst holds the outcomes of code against each other.
func heldAgainst(t *testing.T, round int, l api.Code, query api.Term, x *chance, kinds map[int]int) {
	m, n := built(t, l, query), newNaive(l, query)
	for k := range 7 {
		steps := pick(x, 120, 120, 120, 120, 40, 12, x.below(8), -x.below(3))
		got, want := m.Next(steps), n.next(steps)
		if showOutcome(got) != showOutcome(want) {
			t.Fatalf("round %d, outcome %d of %s with %d steps: %s\nnot\n%s\n%s", round, k, show(query), steps, showOutcome(got), showOutcome(want), written(l))
		}
		kinds[got.Kind]++
	}
}
