package magic_test

import (
	"slices"
	"strconv"
	"strings"
	"sync"
	"testing"

	"hornbook/api"
	"hornbook/magic"
	"hornbook/model"
)

// handed is what the call takes.
type handed struct {
	l     []api.Clause
	query api.Term
}

// answered is what it answers.
type answered struct {
	l    []api.Clause
	asks api.Term
	err  api.Errno
}

func (h handed) asked() answered {
	l, asks, err := magic.Magic(h.l, h.query)
	return answered{l, asks, err}
}

func (x answered) told() string {
	return showClauses(x.l) + show(x.asks) + " " + x.err.Error()
}

// places collects where things lie that can be reached, the room behind each list included.
type places struct {
	terms   []*api.Term
	clauses []*api.Clause
}

func (l *places) addTerms(list []api.Term) {
	list = list[:cap(list)]
	for k := range list {
		l.terms = append(l.terms, &list[k])
		l.addTerms(list[k].Args)
	}
}

func (l *places) add(list []api.Clause, query api.Term) {
	list = list[:cap(list)]
	for k := range list {
		l.clauses = append(l.clauses, &list[k])
		l.addTerms(list[k].Head.Args)
		l.addTerms(list[k].Body.Args)
	}
	l.addTerms(query.Args)
}

func hasTwice[T comparable](list []T) bool {
	met := map[T]bool{}
	for _, x := range list {
		if met[x] {
			return true
		}
		met[x] = true
	}
	return false
}

func (l *places) overlap() bool {
	return hasTwice(l.terms) || hasTwice(l.clauses)
}

// whole writes all that lies there.
func (l *places) whole() string {
	var out strings.Builder
	one := func(t api.Term) {
		out.WriteString(strconv.Itoa(t.Kind) + " " + strconv.FormatInt(t.N, 10) + strconv.Quote(t.Name) + strconv.Itoa(len(t.Args)) + ",")
	}
	for _, x := range l.terms {
		one(*x)
	}
	for _, x := range l.clauses {
		one(x.Head)
		one(x.Body)
	}
	return out.String()
}

func (l *places) overwrite() {
	for _, x := range l.terms {
		*x = a("overwritten")
	}
	for _, x := range l.clauses {
		*x = fact(a("overwritten"))
	}
}

// roomy is t anew, with room behind each list, also behind one that has nothing in it.
func roomy(t api.Term) api.Term {
	full := make([]api.Term, len(t.Args), len(t.Args)+2)
	for k, arg := range t.Args {
		full[k] = roomy(arg)
	}
	t.Args = append(full, a("room"), c("room", v(0)))[:len(t.Args)]
	return t
}

func (h handed) roomy() handed {
	full := make([]api.Clause, len(h.l), len(h.l)+2)
	for k, x := range h.l {
		full[k] = rule(roomy(x.Head), roomy(x.Body))
	}
	full = append(full, fact(c("room", v(0))), rule(a("room"), not(a("room"))))[:len(h.l)]
	return handed{full, roomy(h.query)}
}

// samples: most are answered; others are not.
func samples(t *testing.T) []handed {
	path := "e(a,b). e(b,1). t(X,Y) :- e(X,Y). t(X,Y) :- t(X,Z), t(Z,Y). p :- t(X,a), q. q."
	l := []handed{
		{clauses(t, path), read(t, "t(X,1)")}, {clauses(t, path), read(t, "t(a,b)")}, {clauses(t, path), read(t, "e(X,1)")}, {clauses(t, path), a("p")}, {clauses(t, path), a("q")},
		{nil, a("p")}, {nil, c("p", v(3), a("a"))}, {clauses(t, "p. q :- p."), a("q")},
	}
	x := chance(48)
	for range 200 {
		some, query := x.sample()
		l = append(l, handed{some, query})
	}
	for k, bad := range nones() {
		broken := l[k%len(l)]
		switch k % 3 {
		case 0:
			broken.query = bad
		case 1:
			broken.l = append(slices.Clone(broken.l), rule(a("a"), bad))
		case 2:
			broken.l = append(slices.Clone(broken.l), fact(bad))
		}
		l = append(l, broken)
	}
	for k, bad := range slices.Concat(wrong, noRules, negated, notSafe, notFree, large) {
		some := l[k%len(l)]
		l = append(l, handed{append(slices.Clone(some.l), bad), some.query})
	}
	return l
}

func TestNothingIsChanged(t *testing.T) {
	for k, h := range samples(t) {
		want := h.asked().told()
		own := h.roomy()
		var memory places
		memory.add(own.l, own.query)
		before := memory.whole()
		if got := own.asked().told(); got != want {
			t.Errorf("sample %d: what is answered hangs on the room behind lists: %s, not %s", k, got, want)
		}
		if memory.whole() != before {
			t.Errorf("sample %d was changed", k)
		}
	}
}

func TestAnswersAreNewMemory(t *testing.T) {
	for k, h := range samples(t) {
		want := h.asked().told()
		own := h.roomy()
		var all, mine, theirs places
		first, second := own.asked(), own.asked()
		all.add(own.l, own.query)
		all.add(first.l, first.asks)
		all.add(second.l, second.asks)
		if all.overlap() {
			t.Errorf("sample %d: memory is shared", k)
		}
		mine.add(first.l, first.asks)
		mine.overwrite()
		if second.told() != want || own.asked().told() != want {
			t.Errorf("sample %d: overwriting answers is seen", k)
		}
		theirs.add(own.l, own.query)
		theirs.overwrite()
		if second.told() != want {
			t.Errorf("sample %d: overwriting what was handed in is seen", k)
		}
	}
}

// TestAnswersAreTheSameAgain: nothing is kept from call to call, and the order of a map is not seen.
func TestAnswersAreTheSameAgain(t *testing.T) {
	var first []string
	for _, h := range samples(t) {
		first = append(first, h.asked().told())
	}
	for range 10 {
		for k, h := range samples(t) {
			if got := h.asked().told(); got != first[k] {
				t.Fatalf("sample %d: %s, and then %s", k, first[k], got)
			}
		}
	}
}

// TestAtOnce: calls that go on at once do not come in each other's way, also with the same clauses.
func TestAtOnce(t *testing.T) {
	list := samples(t)
	want := make([]string, len(list))
	for k, h := range list {
		want[k] = h.asked().told()
	}
	var all sync.WaitGroup
	for range 4 {
		all.Go(func() {
			for k, h := range list {
				if got := h.asked().told(); got != want[k] {
					t.Errorf("sample %d: %s, not %s", k, got, want[k])
				}
			}
		})
	}
	all.Wait()
}

// TestSamplesAreAnswered: else the tests above would look at nothing.
func TestSamplesAreAnswered(t *testing.T) {
	answers, errs := 0, 0
	for _, h := range samples(t) {
		x := h.asked()
		switch {
		case x.err == api.OK:
			answers++
		case x.l != nil || !same(x.asks, api.Term{}) || x.asks.Args != nil:
			t.Errorf("beside %v something is answered: %s", x.err, x.told())
		default:
			errs++
		}
	}
	if answers < 180 || errs < 150 {
		t.Error(answers, errs)
	}
}

// TestAnswersAreRules: what is answered is such as the chapter ahead takes.
func TestAnswersAreRules(t *testing.T) {
	for k, h := range samples(t) {
		x := h.asked()
		if x.err != api.OK {
			continue
		}
		facts(t, x.l)
		if _, err := model.Ask(x.l, x.asks); err != api.OK {
			t.Errorf("sample %d: %v of %s", k, err, x.told())
		}
	}
}

// TestNoPanic: a panic in any of these would end the test.
func TestNoPanic(t *testing.T) {
	odd := append(nones(), v(0), v(1), v(api.MaxVar), i(3), i(least), a(""), a("a"), a("true"), a("!"), a("^"), a("?"), c("p", v(0)), c("p", v(1)), c("p", a("a")), c("p^b", a("a")), not(a("a")), not(c("p", v(0))), not(v(0)), c(",", a("a"), a("b")), c(",", v(0), v(0)), c(",", a("true"), c("p", v(0))), c(":-", a("a"), a("b")), c("call", v(0)), of("p", api.MaxArity), a(greater))
	for _, x := range odd {
		for _, y := range odd {
			handed{[]api.Clause{fact(c("p", a("a"))), rule(x, y)}, y}.asked()
			handed{[]api.Clause{rule(c("p", v(0)), x), rule(y, a("true"))}, x}.asked()
			handed{[]api.Clause{rule(c("p", v(0)), c(",", x, c("p", v(0)))), rule(c("p", v(0)), c(",", c("p", v(0)), y))}, c("p", v(0))}.asked()
		}
	}
}
