package proof_test

import (
	"slices"
	"strconv"
	"strings"
	"testing"

	"hornbook/api"
	"hornbook/proof"
)

// handed is what all calls of the chapter take.
type handed struct {
	body  api.Term
	goal  api.Term
	l     []api.Clause
	facts []api.Term
	tree  api.Tree
}

// answered is what they answer.
type answered struct {
	goals  []api.Term
	shown  api.Term
	proofs []api.Proof
	heads  []api.Term
	errs   [4]api.Errno
}

func (h handed) asked() answered {
	var x answered
	x.goals, x.errs[0] = proof.Goals(h.body)
	x.shown, x.errs[1] = proof.Shows(h.l, h.tree)
	x.proofs, x.errs[2] = proof.Find(h.l, h.goal, 4, 20)
	x.heads, x.errs[3] = proof.Step(h.l, h.facts)
	return x
}

func (x answered) told() string {
	out := showTerms(x.goals) + "\n" + show(x.shown) + "\n" + showProofs(x.proofs) + showTerms(x.heads)
	for _, err := range x.errs {
		out += err.Error()
	}
	return out
}

// places collects where things lie that can be reached, the room behind each list included.
type places struct {
	terms   []*api.Term
	clauses []*api.Clause
	trees   []*api.Tree
	proofs  []*api.Proof
}

func (l *places) addTerms(list []api.Term) {
	list = list[:cap(list)]
	for k := range list {
		l.terms = append(l.terms, &list[k])
		l.addTerms(list[k].Args)
	}
}

func (l *places) addClauses(list []api.Clause) {
	list = list[:cap(list)]
	for k := range list {
		l.clauses = append(l.clauses, &list[k])
		l.addTerms(list[k].Head.Args)
		l.addTerms(list[k].Body.Args)
	}
}

func (l *places) addTrees(list []api.Tree) {
	list = list[:cap(list)]
	for k := range list {
		l.trees = append(l.trees, &list[k])
		l.addTrees(list[k].Kids)
	}
}

func (l *places) addHanded(h handed) {
	l.addTerms(h.body.Args)
	l.addTerms(h.goal.Args)
	l.addClauses(h.l)
	l.addTerms(h.facts)
	l.addTrees(h.tree.Kids)
}

func (l *places) addAnswered(x answered) {
	l.addTerms(x.goals)
	l.addTerms(x.shown.Args)
	l.addTerms(x.heads)
	proofs := x.proofs[:cap(x.proofs)]
	for k := range proofs {
		l.proofs = append(l.proofs, &proofs[k])
		l.addTerms(proofs[k].Term.Args)
		l.addTrees(proofs[k].Tree.Kids)
	}
}

func hasTwice[T comparable](list []T) bool {
	met := map[T]bool{}
	for _, x := range list {
		if met[x] {
			return true
		}
		met[x] = true
	}
	return false
}

func (l *places) overlap() bool {
	return hasTwice(l.terms) || hasTwice(l.clauses) || hasTwice(l.trees) || hasTwice(l.proofs)
}

// whole writes all that lies there.
func (l *places) whole() string {
	var out strings.Builder
	one := func(t api.Term) {
		out.WriteString(strconv.Itoa(t.Kind) + " " + strconv.FormatInt(t.N, 10) + strconv.Quote(t.Name) + strconv.Itoa(len(t.Args)) + ",")
	}
	for _, x := range l.terms {
		one(*x)
	}
	for _, x := range l.clauses {
		one(x.Head)
		one(x.Body)
	}
	for _, x := range l.trees {
		out.WriteString(strconv.Itoa(x.Clause) + " " + strconv.Itoa(len(x.Kids)) + ";")
	}
	for _, x := range l.proofs {
		one(x.Term)
		out.WriteString(strconv.Itoa(x.Tree.Clause) + " " + strconv.Itoa(len(x.Tree.Kids)) + ";")
	}
	return out.String()
}

func (l *places) overwrite() {
	for _, x := range l.terms {
		*x = a("overwritten")
	}
	for _, x := range l.clauses {
		*x = fact(a("overwritten"))
	}
	for _, x := range l.trees {
		*x = tree(77)
	}
	for _, x := range l.proofs {
		*x = api.Proof{Term: a("overwritten")}
	}
}

// roomy is t anew, with room behind each list, also behind one that has nothing in it.
func roomy(t api.Term) api.Term {
	t.Args = roomyTerms(t.Args)
	return t
}

func roomyTerms(l []api.Term) []api.Term {
	full := make([]api.Term, len(l), len(l)+2)
	for k, t := range l {
		full[k] = roomy(t)
	}
	return append(full, a("room"), c("room", v(0)))[:len(l)]
}

func roomyTree(t api.Tree) api.Tree {
	full := make([]api.Tree, len(t.Kids), len(t.Kids)+2)
	for k, kid := range t.Kids {
		full[k] = roomyTree(kid)
	}
	return tree(t.Clause, append(full, tree(0), tree(1, tree(0)))[:len(t.Kids)]...)
}

func (h handed) roomy() handed {
	full := make([]api.Clause, len(h.l), len(h.l)+2)
	for k, x := range h.l {
		full[k] = rule(roomy(x.Head), roomy(x.Body))
	}
	full = append(full, fact(c("room", v(0))), rule(c("room", v(0)), c("room", v(0))))[:len(h.l)]
	return handed{roomy(h.body), roomy(h.goal), full, roomyTerms(h.facts), roomyTree(h.tree)}
}

// samples: most are answered, with compounds and variables in many places; others are not.
func samples(t *testing.T) []handed {
	const pairs = "p(f(X,[a]),Y) :- q(X,g(Y)), r(Y). q(h(1),g([b|Z])). q(k(X,X),g(X)). r([b,c(d)]). r(f(1)). s(X,X) :- true. p(g(X),g(X)) :- s(X,g(X)), true."
	l := []handed{
		{read(t, "p(X),(q(f(X,[a])),r)"), read(t, "t(a,f(X))"), clauses(t, edges), readAll(t, "e(a,b). e(f(a,[b]),c)."), readTree(t, "2(0 1(3))")},
		{read(t, "true"), read(t, "p(A,B)"), clauses(t, pairs), readAll(t, "q(h([a]),g(f(b))). r(f(b)). s(a,b). r(f(b)). s(a,g(a))."), readTree(t, "0(1 3)")},
		{read(t, "a,!"), read(t, "app(X,Y,[f(A),g(B,A),[c]])"), clauses(t, app), nil, readTree(t, "1(1(0))")},
		{read(t, "p((q,r),X)"), read(t, "p(f(k(A,f(1)),B),C)"), clauses(t, pairs), readAll(t, "a. p(f(a),b)."), readTree(t, "0(2 4)")},
	}
	x := chance(22)
	for range 60 {
		l = append(l, handed{x.body(x.below(5), 3), x.goal(3), x.program(true, 2), []api.Term{x.goal(0), x.goal(0), x.goal(0), x.goal(0)}, tree(0, tree(1))})
		mine := &l[len(l)-1]
		for k, some := range mine.l {
			if proofs, _ := proof.Find(mine.l, some.Head, 4, 9); len(proofs) > 0 {
				mine.tree = proofs[k%len(proofs)].Tree
			}
		}
	}
	for k, none := range nones() {
		broken := l[k%len(l)]
		switch k % 4 {
		case 0:
			broken.body, broken.goal = none, none
		case 1:
			broken.facts = append(slices.Clone(broken.facts), none)
		case 2:
			broken.l = append(slices.Clone(broken.l), rule(a("a"), none))
		case 3:
			broken.l = append(slices.Clone(broken.l), fact(none))
		}
		l = append(l, broken)
	}
	return l
}

func TestNothingIsChanged(t *testing.T) {
	for k, h := range samples(t) {
		want := h.asked().told()
		own := h.roomy()
		var memory places
		memory.addHanded(own)
		before := memory.whole()
		if got := own.asked().told(); got != want {
			t.Errorf("sample %d: what is answered hangs on the room behind lists: %s, not %s", k, got, want)
		}
		if memory.whole() != before {
			t.Errorf("sample %d was changed", k)
		}
	}
}

func TestAnswersAreNewMemory(t *testing.T) {
	for k, h := range samples(t) {
		want := h.asked().told()
		own := h.roomy()
		var all, mine, theirs places
		first, second := own.asked(), own.asked()
		all.addHanded(own)
		all.addAnswered(first)
		all.addAnswered(second)
		if all.overlap() {
			t.Errorf("sample %d: memory is shared", k)
		}
		mine.addAnswered(first)
		mine.overwrite()
		if second.told() != want || own.asked().told() != want {
			t.Errorf("sample %d: overwriting answers is seen", k)
		}
		theirs.addHanded(own)
		theirs.overwrite()
		if second.told() != want {
			t.Errorf("sample %d: overwriting what was handed in is seen", k)
		}
	}
}

// TestAnswersAreTheSameAgain: nothing is kept from call to call, and the order of a map is not seen.
func TestAnswersAreTheSameAgain(t *testing.T) {
	var first []string
	for _, h := range samples(t) {
		first = append(first, h.asked().told())
	}
	for range 10 {
		for k, h := range samples(t) {
			if got := h.asked().told(); got != first[k] {
				t.Fatalf("sample %d: %s, and then %s", k, first[k], got)
			}
		}
	}
}

// TestSamplesAreAnswered: else the tests above would look at nothing.
func TestSamplesAreAnswered(t *testing.T) {
	var answers, errs [4]int
	for _, h := range samples(t) {
		x := h.asked()
		for k, some := range []bool{len(x.goals) > 0, !isZero(x.shown), len(x.proofs) > 0, len(x.heads) > 0} {
			if some {
				answers[k]++
			}
			if x.errs[k] != api.OK {
				errs[k]++
			}
			if some && x.errs[k] != api.OK {
				t.Errorf("beside %v something is answered: %s", x.errs[k], x.told())
			}
		}
	}
	for k := range answers {
		if answers[k] < 30 || errs[k] < 30 {
			t.Error(answers, errs)
		}
	}
}

// TestNoPanic: a panic in any of these would end the test.
func TestNoPanic(t *testing.T) {
	odd := append(nones(), v(0), v(1), v(api.MaxVar), i(3), i(least), a(""), a("a"), a("true"), a("!"), c("p", v(0)), c("p", v(1)), c("p", a("a")), c(",", a("a"), a("b")), c(",", v(0), v(0)), c(",", a("true"), c("p", v(0))), c(":-", a("a"), a("b")), c("call", v(0)))
	bad := []api.Tree{{}, tree(-1), tree(least), tree(greatest), tree(0, tree(0)), tree(1), tree(0, api.Tree{}, tree(1, tree(0))), {Kids: []api.Tree{}}, {Clause: 1, Kids: []api.Tree{{Clause: 1, Kids: []api.Tree{{Clause: 1}}}}}}
	for _, x := range odd {
		proof.Goals(x)
		for k, y := range odd {
			h := handed{x, y, []api.Clause{fact(c("p", a("a"))), rule(x, y)}, []api.Term{y, x}, bad[k%len(bad)]}
			h.asked()
			h.l = []api.Clause{rule(c("p", v(0)), x), rule(y, a("true"))}
			h.asked()
		}
	}
	l := clauses(t, edges)
	for _, depth := range []int{least, least + 1, -1, 0, 1, 999, 1000, 1001, greatest} {
		for _, most := range []int{least, -1, 0, 1, 2, 3, greatest} {
			proof.Find(l, c("t", v(0), v(1)), depth, most)
		}
	}
	for _, u := range bad {
		if got, err := proof.Shows(l, u); err != api.OK && !isZero(got) {
			t.Error(showTree(u), show(got), err)
		}
	}
}
