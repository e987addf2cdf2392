package solve_test

import (
	"slices"
	"strings"

	"hornbook/api"
	"hornbook/arith"
	"hornbook/base"
	"hornbook/term"
	"hornbook/text"
	"hornbook/unify"
)

// meaning is a search as the document tells it, word by word: a list of goals and bindings that are copied for each choice.
// It is held against the search that is built.
type meaning struct {
	base  *base.Base
	query api.Term
	run   *run
	fresh int64 // the next new variable
	steps int
	most  int
	text  string
	begun bool
	over  bool
}

// run is the list, the bindings and the choices of a search, or of one by itself.
type run struct {
	m       *meaning
	list    []item
	binds   []api.Bind
	choices []option
}

// item is a goal with its floor, or an end of catch, or what is left of a goal's clauses.
type item struct {
	goal    api.Term
	floor   int
	catch   *catch
	clauses []api.Clause
	isRest  bool
}

type catch struct {
	ball, recovery api.Term
	binds          []api.Bind
	choices        []option
}

type option struct {
	list  []item
	binds []api.Bind
}

// What a step comes to.
const (
	holds = iota
	fails
	throws
	isOut
)

func newMeaning(b *base.Base, query api.Term) (*meaning, api.Errno) {
	body, err := base.Body(query)
	if err != api.OK {
		return nil, err
	}
	m := &meaning{base: b, query: query, fresh: 1000}
	m.run = &run{m: m, list: []item{{goal: body}}}
	return m, api.OK
}

func (m *meaning) next(steps int) api.Outcome {
	if m.over {
		return api.Outcome{Kind: api.None}
	}
	m.steps, m.most, m.text = 0, max(steps, 0), ""
	kind, ball := m.run.next(m.begun)
	m.begun = true
	o := api.Outcome{Kind: kind, Text: m.text, Steps: m.steps}
	switch kind {
	case api.Answer:
		o.Term, _, _ = term.Rename(m.run.apply(m.query), 0)
		return o
	case api.Thrown:
		o.Ball, _, _ = term.Rename(ball, 0)
	}
	m.over = true
	return o
}

func (r *run) next(again bool) (kind int, ball api.Term) {
	if again && !r.fail() {
		return api.None, api.Term{}
	}
	for len(r.list) > 0 {
		first := r.list[0]
		if first.catch != nil {
			r.list = r.list[1:]
			continue
		}
		var came int
		if first.isRest {
			r.list = r.list[1:]
			came = r.clauses(first)
		} else {
			if r.m.steps == r.m.most {
				return api.Out, api.Term{}
			}
			r.m.steps++
			r.list = r.list[1:]
			came, ball = r.do(r.apply(first.goal), first.floor)
		}
		switch came {
		case isOut:
			return api.Out, api.Term{}
		case throws:
			var caught bool
			if ball, caught = r.throw(ball); !caught {
				return api.Thrown, ball
			}
		case fails:
			if !r.fail() {
				return api.None, api.Term{}
			}
		}
	}
	return api.Answer, api.Term{}
}

func (r *run) fail() bool {
	if len(r.choices) == 0 {
		return false
	}
	last := r.choices[len(r.choices)-1]
	r.choices = r.choices[:len(r.choices)-1]
	r.list, r.binds = last.list, last.binds
	return true
}

func (r *run) apply(t api.Term) api.Term {
	t, err := term.Apply(t, r.binds)
	if err != api.OK {
		panic(err)
	}
	return t
}

// tooGreat is given up with where a term is too great to be written out again and again.
type tooGreat struct{}

func (r *run) unify(x, y api.Term) int {
	size := 0
	for _, b := range r.binds {
		n, _, _ := term.Measure(b.To)
		size += n
	}
	if size > 100000 {
		panic(tooGreat{})
	}
	l := []api.Pair{{A: x, B: y}}
	for _, b := range r.binds {
		l = append(l, api.Pair{A: v(b.Var), B: b.To})
	}
	s, err := unify.Solve(l)
	if err != api.OK {
		return fails
	}
	r.binds = s
	return holds
}

// anew is a term with new variables.
func (r *run) anew(t api.Term) api.Term {
	t, next, err := term.Rename(t, r.m.fresh)
	if err != api.OK {
		panic(err)
	}
	r.m.fresh = next
	return t
}

func (r *run) front(items ...item) {
	r.list = slices.Concat(items, r.list)
}

func (r *run) choose(items ...item) {
	r.choices = append(slices.Clone(r.choices), option{slices.Concat(items, r.list), r.binds})
}

func (r *run) throw(ball api.Term) (api.Term, bool) {
	for len(r.list) > 0 {
		first := r.list[0]
		r.list = r.list[1:]
		if first.catch == nil {
			continue
		}
		r.binds, r.choices = first.catch.binds, first.catch.choices
		if r.unify(r.anew(ball), first.catch.ball) == fails {
			continue
		}
		body, err := base.Body(r.apply(first.catch.recovery))
		if err == api.OK {
			r.front(item{goal: body, floor: len(r.choices)})
			return api.Term{}, true
		}
		ball = a("not_callable")
	}
	return ball, false
}

func bodyOf(g api.Term) (api.Term, api.Term, int) {
	if g.Kind == api.Var {
		return api.Term{}, a("unbound"), throws
	}
	body, err := base.Body(g)
	if err != api.OK {
		return api.Term{}, a("not_callable"), throws
	}
	return body, api.Term{}, holds
}

// alone searches something by itself, for one answer or for all; what is told at each answer.
func (r *run) alone(body api.Term, one bool, tell func(sub *run)) (int, api.Term) {
	sub := &run{m: r.m, list: []item{{goal: body}}, binds: r.binds}
	for again := false; ; again = true {
		kind, ball := sub.next(again)
		switch kind {
		case api.None:
			return holds, api.Term{}
		case api.Out:
			return isOut, api.Term{}
		case api.Thrown:
			return throws, ball
		}
		tell(sub)
		if one {
			return holds, api.Term{}
		}
	}
}

// do is the document's first table, and what stands behind the second.
func (r *run) do(g api.Term, floor int) (int, api.Term) {
	none := api.Term{}
	at := func(t api.Term) item { return item{goal: t, floor: floor} }
	switch {
	case isOf(g, "true", 0):
		return holds, none
	case isOf(g, "fail", 0):
		return fails, none
	case isOf(g, "!", 0):
		r.choices = r.choices[:floor:floor]
		return holds, none
	case isOf(g, ",", 2):
		r.front(at(g.Args[0]), at(g.Args[1]))
		return holds, none
	case isOf(g, "->", 2):
		return r.do(c(";", g, a("fail")), floor)
	case isOf(g, ";", 2) && isOf(g.Args[0], "->", 2):
		then, found := at(g.Args[1]), false
		came, ball := r.alone(g.Args[0].Args[0], true, func(sub *run) {
			r.binds, found = sub.binds, true
		})
		if came != holds {
			return came, ball
		}
		if found {
			then = at(g.Args[0].Args[1])
		}
		r.front(then)
		return holds, none
	case isOf(g, ";", 2):
		r.choose(at(g.Args[1]))
		r.front(at(g.Args[0]))
		return holds, none
	case g.Name == "call" && len(g.Args) >= 1 && len(g.Args) <= 8:
		return r.call(g.Args[0], g.Args[1:])
	case isOf(g, "\\+", 1):
		body, ball, came := bodyOf(g.Args[0])
		if came != holds {
			return came, ball
		}
		found := false
		if came, ball = r.alone(body, true, func(*run) { found = true }); came == holds && found {
			came = fails
		}
		return came, ball
	case isOf(g, "findall", 3):
		body, ball, came := bodyOf(g.Args[1])
		if came != holds {
			return came, ball
		}
		var l []api.Term
		came, ball = r.alone(body, false, func(sub *run) { l = append(l, sub.anew(sub.apply(g.Args[0]))) })
		if came == holds {
			came = r.unify(g.Args[2], list(l...))
		}
		return came, ball
	case isOf(g, "catch", 3):
		r.front(item{catch: &catch{g.Args[1], g.Args[2], r.binds, r.choices}})
		body, ball, came := bodyOf(g.Args[0])
		if came == holds {
			r.front(item{goal: body, floor: len(r.choices)})
		}
		return came, ball
	}
	if came, ball, is := r.builtin(g); is {
		return came, ball
	}
	if base.Reserved(g.Name, len(g.Args)) {
		return throws, about("protected", g)
	}
	if !r.m.base.Known(g.Name, len(g.Args)) {
		return throws, about("unknown", g)
	}
	return r.clauses(item{goal: g, floor: len(r.choices), clauses: viewed(r.m.base, g)}), none
}

func about(what string, g api.Term) api.Term {
	return c(what, c("/", a(g.Name), i(int64(len(g.Args)))))
}

func viewed(b *base.Base, g api.Term) []api.Clause {
	var l []api.Clause
	ids, err := b.Look(g)
	if err != api.OK {
		panic(err)
	}
	for _, id := range ids {
		x, _ := b.Get(id)
		l = append(l, x)
	}
	return l
}

func (r *run) clauses(x item) int {
	if len(x.clauses) == 0 {
		return fails
	}
	own := r.anew(c("own", x.clauses[0].Head, x.clauses[0].Body))
	rest := x
	rest.isRest, rest.clauses = true, x.clauses[1:]
	r.choose(rest)
	if r.unify(own.Args[0], x.goal) == fails {
		return fails
	}
	r.front(item{goal: own.Args[1], floor: x.floor})
	return holds
}

func (r *run) call(g api.Term, more []api.Term) (int, api.Term) {
	if len(more) > 0 {
		switch {
		case g.Kind == api.Var:
			return throws, a("unbound")
		case g.Kind == api.Int || len(g.Args)+len(more) > api.MaxArity:
			return throws, a("not_callable")
		}
		g = c(g.Name, slices.Concat(g.Args, more)...)
	}
	body, ball, came := bodyOf(g)
	if came == holds {
		r.front(item{goal: body, floor: len(r.choices)})
	}
	return came, ball
}

// differ is P3's order; unclear, if the first place at which two terms differ has two variables.
func differ(x, y api.Term) (order int, unclear bool) {
	if x.Kind == api.Comp && y.Kind == api.Comp && x.Name == y.Name && len(x.Args) == len(y.Args) {
		for k := range x.Args {
			if order, unclear := differ(x.Args[k], y.Args[k]); order != 0 {
				return order, unclear
			}
		}
		return 0, false
	}
	order, _ = term.Compare(x, y)
	return order, order != 0 && x.Kind == api.Var && y.Kind == api.Var
}

// entriesOf: of what must be a list.
func entriesOf(t api.Term) (l []api.Term, came int, ball api.Term) {
	for isOf(t, ".", 2) {
		l = append(l, t.Args[0])
		t = t.Args[1]
	}
	switch {
	case t.Kind == api.Var:
		return nil, throws, a("unbound")
	case !isOf(t, "[]", 0):
		return nil, throws, a("wrong_kind")
	}
	return l, holds, api.Term{}
}

func nameAndArgs(t api.Term) (api.Term, []api.Term) {
	if t.Kind == api.Comp {
		return a(t.Name), t.Args
	}
	return t, nil
}

func yes(is bool) int {
	if is {
		return holds
	}
	return fails
}

// builtin is the document's second table.
func (r *run) builtin(g api.Term) (came int, ball api.Term, is bool) {
	var x, y, z api.Term
	for k, place := range []*api.Term{&x, &y, &z} {
		if k < len(g.Args) {
			*place = g.Args[k]
		}
	}
	unbound, wrong := a("unbound"), a("wrong_kind")
	told := func(came int) (int, api.Term, bool) { return came, api.Term{}, true }
	thrown := func(ball api.Term) (int, api.Term, bool) { return throws, ball, true }
	switch {
	case isOf(g, "throw", 1):
		if x.Kind == api.Var {
			return thrown(unbound)
		}
		return thrown(r.anew(x))
	case isOf(g, "=", 2):
		return told(r.unify(x, y))
	case isOf(g, "\\=", 2):
		before := r.binds
		is := r.unify(x, y) == fails
		r.binds = before
		return told(yes(is))
	case isOf(g, "==", 2):
		return told(yes(same(x, y)))
	case isOf(g, "\\==", 2):
		return told(yes(!same(x, y)))
	case isOf(g, "@<", 2), isOf(g, "@>", 2), isOf(g, "@=<", 2), isOf(g, "@>=", 2):
		order, unclear := differ(x, y)
		if unclear {
			return thrown(unbound)
		}
		return told(yes(order == 0 && strings.Contains(g.Name, "=") || order < 0 && strings.Contains(g.Name, "<") || order > 0 && strings.Contains(g.Name, ">")))
	case isOf(g, "compare", 3):
		order, unclear := differ(y, z)
		if unclear {
			return thrown(unbound)
		}
		return told(r.unify(x, a(map[int]string{-1: "<", 0: "=", 1: ">"}[order])))
	case isOf(g, "var", 1):
		return told(yes(x.Kind == api.Var))
	case isOf(g, "nonvar", 1):
		return told(yes(x.Kind != api.Var))
	case isOf(g, "atom", 1):
		return told(yes(x.Kind == api.Atom))
	case isOf(g, "integer", 1):
		return told(yes(x.Kind == api.Int))
	case isOf(g, "atomic", 1):
		return told(yes(x.Kind == api.Atom || x.Kind == api.Int))
	case isOf(g, "compound", 1):
		return told(yes(x.Kind == api.Comp))
	case isOf(g, "callable", 1):
		return told(yes(x.Kind == api.Atom || x.Kind == api.Comp))
	case isOf(g, "ground", 1):
		vars, _ := term.Vars(x)
		return told(yes(len(vars) == 0))
	case isOf(g, "functor", 3) && x.Kind != api.Var:
		name, args := nameAndArgs(x)
		if r.unify(y, name) == fails {
			return told(fails)
		}
		return told(r.unify(z, i(int64(len(args)))))
	case isOf(g, "functor", 3):
		switch {
		case y.Kind == api.Var || z.Kind == api.Var:
			return thrown(unbound)
		case z.Kind != api.Int || z.N < 0 || z.N > api.MaxArity || y.Kind == api.Comp || y.Kind == api.Int && z.N != 0:
			return thrown(wrong)
		case z.N == 0:
			return told(r.unify(x, y))
		}
		args := make([]api.Term, z.N)
		for k := range args {
			args[k] = r.anew(v(0))
		}
		return told(r.unify(x, c(y.Name, args...)))
	case isOf(g, "arg", 3):
		switch {
		case x.Kind == api.Var || y.Kind == api.Var:
			return thrown(unbound)
		case x.Kind != api.Int || y.Kind != api.Comp:
			return thrown(wrong)
		case x.N < 1 || x.N > int64(len(y.Args)):
			return told(fails)
		}
		return told(r.unify(z, y.Args[x.N-1]))
	case isOf(g, "copy_term", 2):
		return told(r.unify(y, r.anew(x)))
	case isOf(g, "is", 2):
		n, ball, err := arith.Eval(y)
		if err != api.OK {
			return thrown(ball)
		}
		return told(r.unify(x, i(n)))
	case isOf(g, "=:=", 2), isOf(g, "=\\=", 2), isOf(g, "<", 2), isOf(g, ">", 2), isOf(g, "=<", 2), isOf(g, ">=", 2):
		is, ball, err := arith.Holds(g.Name, x, y)
		if err != api.OK {
			return thrown(ball)
		}
		return told(yes(is))
	case isOf(g, "between", 3):
		switch {
		case x.Kind == api.Var || y.Kind == api.Var:
			return thrown(unbound)
		case x.Kind != api.Int || y.Kind != api.Int || z.Kind != api.Var && z.Kind != api.Int:
			return thrown(wrong)
		case z.Kind == api.Int:
			return told(yes(x.N <= z.N && z.N <= y.N))
		case x.N > y.N:
			return told(fails)
		case x.N < y.N:
			r.choose(item{goal: c("between", i(x.N+1), y, z)})
		}
		return told(r.unify(z, x))
	case isOf(g, "print", 1):
		t, _, _ := term.Rename(x, 0)
		s, _ := text.Print(t, text.Default())
		r.m.text += s
		return told(holds)
	case isOf(g, "nl", 0):
		r.m.text += "\n"
		return told(holds)
	}
	if came, ball, is := r.ofLists(g, x, y); is {
		return came, ball, true
	}
	return r.ofBases(g, x)
}

func (r *run) ofLists(g, x, y api.Term) (came int, ball api.Term, is bool) {
	unbound, wrong := a("unbound"), a("wrong_kind")
	told := func(came int) (int, api.Term, bool) { return came, api.Term{}, true }
	thrown := func(ball api.Term) (int, api.Term, bool) { return throws, ball, true }
	switch {
	case isOf(g, "=..", 2) && x.Kind != api.Var:
		name, args := nameAndArgs(x)
		return told(r.unify(y, c(".", name, list(args...))))
	case isOf(g, "=..", 2):
		l, came, ball := entriesOf(y)
		switch {
		case came != holds:
			return thrown(ball)
		case len(l) == 0:
			return thrown(wrong)
		case l[0].Kind == api.Var:
			return thrown(unbound)
		case len(l) == 1 && l[0].Kind != api.Comp:
			return told(r.unify(x, l[0]))
		case l[0].Kind != api.Atom || len(l) > api.MaxArity+1:
			return thrown(wrong)
		}
		return told(r.unify(x, c(l[0].Name, l[1:]...)))
	case isOf(g, "atom_length", 2):
		if x.Kind == api.Var {
			return thrown(unbound)
		}
		if x.Kind != api.Atom {
			return thrown(wrong)
		}
		return told(r.unify(y, i(int64(len(x.Name)))))
	case isOf(g, "atom_chars", 2) && x.Kind == api.Atom:
		var l []api.Term
		for k := range len(x.Name) {
			l = append(l, a(x.Name[k:k+1]))
		}
		return told(r.unify(y, list(l...)))
	case isOf(g, "atom_chars", 2):
		if x.Kind != api.Var {
			return thrown(wrong)
		}
		l, came, ball := entriesOf(y)
		if came != holds {
			return thrown(ball)
		}
		name := ""
		for _, t := range l {
			if t.Kind == api.Var {
				return thrown(unbound)
			}
		}
		for _, t := range l {
			if t.Kind != api.Atom || len(t.Name) != 1 {
				return thrown(wrong)
			}
			name += t.Name
		}
		if len(l) > api.MaxName {
			return thrown(wrong)
		}
		return told(r.unify(x, a(name)))
	case isOf(g, "length", 2):
		l, came, ball := entriesOf(x)
		if came != holds {
			return thrown(ball)
		}
		return told(r.unify(y, i(int64(len(l)))))
	case isOf(g, "sort", 2):
		l, came, ball := entriesOf(x)
		if came != holds {
			return thrown(ball)
		}
		if vars, _ := term.Vars(list(l...)); len(vars) > 0 {
			return thrown(unbound)
		}
		slices.SortFunc(l, func(x, y api.Term) int {
			order, _ := term.Compare(x, y)
			return order
		})
		return told(r.unify(y, list(slices.CompactFunc(l, same)...)))
	}
	return 0, api.Term{}, false
}

func (r *run) ofBases(g, x api.Term) (came int, ball api.Term, is bool) {
	if !isOf(g, "assertz", 1) && !isOf(g, "asserta", 1) && !isOf(g, "retract", 1) {
		return 0, api.Term{}, false
	}
	head, body := x, a("true")
	if isOf(x, ":-", 2) {
		head, body = x.Args[0], x.Args[1]
	}
	switch {
	case head.Kind == api.Var:
		return throws, a("unbound"), true
	case head.Kind == api.Int:
		return throws, a("wrong_kind"), true
	case base.Reserved(head.Name, len(head.Args)):
		return throws, about("protected", head), true
	}
	if g.Name != "retract" {
		made, err := base.Make(x)
		if err != api.OK {
			return throws, a("wrong_kind"), true
		}
		r.m.base.Add(made, g.Name == "asserta")
		return holds, api.Term{}, true
	}
	ids, _ := r.m.base.Look(head)
	for _, id := range ids {
		y, _ := r.m.base.Get(id)
		own, before := r.anew(c("own", y.Head, y.Body)), r.binds
		if r.unify(own.Args[0], head) == holds && r.unify(own.Args[1], body) == holds {
			r.m.base.Remove(id)
			return holds, api.Term{}, true
		}
		r.binds = before
	}
	return fails, api.Term{}, true
}
