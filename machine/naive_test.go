package machine_test

import (
	"maps"
	"slices"

	"hornbook/api"
	"hornbook/base"
	"hornbook/solve"
	"hornbook/term"
	"hornbook/unify"
)

// naive is a machine as the document tells it, word by word: all that there is is copied for each choice, each part is
// a new variable first, and a builtin is a search for its goal. It is held against the machine that is built.
type naive struct {
	code  api.Code
	query api.Term
	store *unify.Store
	fresh int64 // the next new variable
	all
	choices []option
	text    string
	begun   bool
	over    bool
}

// all is as it was when one goes on from a choice.
type all struct {
	at    int
	args  map[int]api.Term
	own   []own // of the query, and of each predicate that was gone to and not come back from
	parts []api.Term
}

type own struct {
	slots map[int]held
	level int
	back  int
}

// held is what is in a slot.
type held struct {
	is       api.Term
	number   int
	isNumber bool
}

type option struct {
	all
	pairs int
}

func (x all) copied() all {
	x.args = maps.Clone(x.args)
	x.parts = slices.Clone(x.parts)
	x.own = slices.Clone(x.own)
	for k := range x.own {
		x.own[k].slots = maps.Clone(x.own[k].slots)
	}
	return x
}

func newNaive(l api.Code, query api.Term) *naive {
	n := &naive{code: l, store: unify.New()}
	n.query, n.fresh, _ = term.Rename(query, 0)
	n.at, n.args, n.own = l.Query, map[int]api.Term{}, []own{{slots: map[int]held{}}}
	vars, _ := term.Vars(n.query)
	for k, x := range vars {
		n.args[k] = v(x)
	}
	return n
}

func (n *naive) next(steps int) api.Outcome {
	if n.over {
		return api.Outcome{Kind: api.None}
	}
	n.text = ""
	taken, kind, ball := n.run(steps)
	o := api.Outcome{Kind: kind, Text: n.text, Steps: taken}
	switch kind {
	case api.Answer:
		t, _ := n.store.Resolve(n.query)
		o.Term, _, _ = term.Rename(t, 0)
	case api.Thrown:
		o.Ball, _, _ = term.Rename(ball, 0)
	}
	n.over = kind != api.Answer
	return o
}

// What comes of an instruction.
const (
	holds = iota
	fails
	throws
	answers
)

func (n *naive) run(steps int) (taken, kind int, ball api.Term) {
	if n.begun && !n.fail() {
		return 0, api.None, ball
	}
	n.begun = true
	for taken < steps {
		taken++
		x := n.code.Instrs[n.at]
		n.at++
		came, ball := n.do(x)
		switch came {
		case answers:
			return taken, api.Answer, api.Term{}
		case throws:
			return taken, api.Thrown, ball
		case fails:
			if !n.fail() {
				return taken, api.None, api.Term{}
			}
		}
	}
	return taken, api.Out, ball
}

func (n *naive) fail() bool {
	if len(n.choices) == 0 {
		return false
	}
	newest := n.choices[len(n.choices)-1]
	n.choices = n.choices[:len(n.choices)-1]
	n.store.Undo(newest.pairs)
	n.all = newest.all
	return true
}

func (n *naive) variable() api.Term {
	n.fresh++
	return v(n.fresh - 1)
}

func (n *naive) arg(k int) api.Term {
	if _, is := n.args[k]; !is {
		n.args[k] = n.variable()
	}
	return n.args[k]
}

func (n *naive) top() *own { return &n.own[len(n.own)-1] }

func (n *naive) slot(k int) api.Term {
	if x, is := n.top().slots[k]; !is || x.isNumber {
		n.top().slots[k] = held{is: n.variable()}
	}
	return n.top().slots[k].is
}

func (n *naive) part() (t api.Term, ok bool) {
	if len(n.parts) == 0 {
		return t, false
	}
	t = n.parts[0]
	n.parts = n.parts[1:]
	return t, true
}

// unified says what comes of it.
func (n *naive) unified(x, y api.Term) int {
	if is, err := n.store.Unify(x, y); !is || err != api.OK {
		return fails
	}
	return holds
}

func (n *naive) compound(x api.Constant) api.Term {
	args := make([]api.Term, x.N)
	for k := range args {
		args[k] = n.variable()
	}
	return c(x.Name, args...)
}

func constant(x api.Constant) api.Term {
	return api.Term{Kind: x.Kind, N: x.N, Name: x.Name}
}

func (n *naive) do(x api.Instr) (came int, ball api.Term) {
	switch x.Op {
	case api.GetVar, api.GetVal, api.GetConst, api.GetComp, api.PutVar, api.PutVal, api.PutConst, api.PutComp:
		return n.doArg(x), ball
	case api.SubVar, api.SubVal, api.SubConst, api.SubComp, api.SubVoid:
		return n.doPart(x), ball
	case api.Call, api.Last:
		for _, e := range n.code.Entries {
			if e.Name == x.Con.Name && int64(e.N) == x.Con.N {
				n.goTo(x.Op, e.At)
				return holds, ball
			}
		}
		return throws, c("unknown", c("/", a(x.Con.Name), i(x.Con.N)))
	case api.Back:
		if len(n.own) == 1 {
			return answers, ball
		}
		n.at, n.parts = n.top().back, nil
		n.own = n.own[:len(n.own)-1]
	case api.Builtin:
		return n.builtin(x)
	default:
		return n.doOrder(x), ball
	}
	return holds, ball
}

func (n *naive) doArg(x api.Instr) int {
	switch x.Op {
	case api.GetVar:
		n.top().slots[x.B] = held{is: n.arg(x.A)}
	case api.GetVal:
		return n.unified(n.arg(x.A), n.slot(x.B))
	case api.GetConst:
		return n.unified(n.arg(x.A), constant(x.Con))
	case api.GetComp:
		t := n.compound(x.Con)
		n.parts = t.Args
		return n.unified(n.arg(x.A), t)
	case api.PutVar:
		t := n.variable()
		n.args[x.A], n.top().slots[x.B] = t, held{is: t}
	case api.PutVal:
		n.args[x.A] = n.slot(x.B)
	case api.PutConst:
		n.args[x.A] = constant(x.Con)
	case api.PutComp:
		n.args[x.A] = n.compound(x.Con)
		n.parts = n.args[x.A].Args
	}
	return holds
}

func (n *naive) doPart(x api.Instr) int {
	if x.Op == api.SubVoid {
		for range x.A {
			if _, ok := n.part(); !ok {
				return fails
			}
		}
		return holds
	}
	t, ok := n.part()
	if !ok {
		return fails
	}
	switch x.Op {
	case api.SubVar:
		n.top().slots[x.A] = held{is: t}
	case api.SubVal:
		return n.unified(n.slot(x.A), t)
	case api.SubConst:
		return n.unified(t, constant(x.Con))
	case api.SubComp:
		u := n.compound(x.Con)
		n.parts = slices.Concat(u.Args, n.parts)
		return n.unified(t, u)
	}
	return holds
}

func (n *naive) doOrder(x api.Instr) int {
	switch x.Op {
	case api.Fail:
		return fails
	case api.Try:
		now := n.all.copied()
		now.at = x.A
		n.choices = append(n.choices, option{now, n.store.Mark()})
	case api.Jump:
		n.at = x.A
	case api.Level:
		n.top().slots[x.A] = held{number: n.top().level, isNumber: true}
	case api.Mark:
		n.top().slots[x.A] = held{number: len(n.choices), isNumber: true}
	case api.Cut:
		if s := n.top().slots[x.A]; s.isNumber && s.number <= len(n.choices) {
			n.choices = n.choices[:s.number]
		}
	case api.UnlessConst:
		if t, _ := n.store.Resolve(n.arg(0)); t.Kind != api.Var && !same(t, constant(x.Con)) {
			n.at = x.A
		}
	case api.UnlessComp:
		t, _ := n.store.Resolve(n.arg(0))
		if t.Kind != api.Var && (t.Kind != api.Comp || t.Name != x.Con.Name || int64(len(t.Args)) != x.Con.N) {
			n.at = x.A
		}
	}
	return holds
}

func (n *naive) goTo(op, at int) {
	behind := own{map[int]held{}, len(n.choices), n.at}
	if op == api.Last {
		behind.back = n.top().back
		n.own = n.own[:len(n.own)-1]
	}
	n.own = append(n.own, behind)
	n.at, n.parts = at, nil
}

func (n *naive) builtin(x api.Instr) (came int, ball api.Term) {
	goal := a(x.Con.Name)
	if x.Con.N > 0 {
		goal = c(x.Con.Name)
	}
	for k := range int(x.Con.N) {
		goal.Args = append(goal.Args, n.arg(k))
	}
	goal, _ = n.store.Resolve(goal)
	s, _ := solve.New(base.New(), goal)
	o := s.Next(1)
	n.text += o.Text
	switch o.Kind {
	case api.Answer:
		var t api.Term
		t, n.fresh, _ = term.Rename(o.Term, n.fresh)
		return n.unified(goal, t), ball
	case api.Thrown:
		return throws, o.Ball
	}
	return fails, ball
}
