package domain_test

import (
	"slices"
	"strconv"
	"sync"
	"testing"

	"hornbook/api"
	"hornbook/domain"
)

// answered is what all calls answer of a problem.
type answered struct {
	errs  []api.Errno
	oks   []bool
	lists [][][]int64 // what is left, solutions, and a few of them
	bests [][]int64
}

func asked(p api.Problem) answered {
	var x answered
	x.errs = append(x.errs, domain.Check(p))
	left, ok, err := domain.Reduce(p)
	x.errs, x.oks, x.lists = append(x.errs, err), append(x.oks, ok), append(x.lists, left)
	for _, most := range []int{50, 2, 0} {
		l, err := domain.Solve(p, most)
		x.errs, x.lists = append(x.errs, err), append(x.lists, l)
	}
	for v := range 4 {
		l, ok, err := domain.Best(p, v-1)
		x.errs, x.oks, x.bests = append(x.errs, err), append(x.oks, ok), append(x.bests, l)
	}
	return x
}

func (x answered) told() string {
	out := ""
	for _, err := range x.errs {
		out += strconv.Itoa(int(err)) + " "
	}
	for _, ok := range x.oks {
		out += strconv.FormatBool(ok) + " "
	}
	for _, l := range x.lists {
		out += showLists(l) + " "
	}
	return out + showLists(x.bests)
}

// places collects where things lie that can be reached, the room behind each list included.
type places struct {
	numbers     []*int64
	vars        []*int
	lists       []*[]int64
	constraints []*api.Constraint
}

func (l *places) addNumbers(list []int64) {
	list = list[:cap(list)]
	for k := range list {
		l.numbers = append(l.numbers, &list[k])
	}
}

func (l *places) addLists(list [][]int64) {
	list = list[:cap(list)]
	for k := range list {
		l.lists = append(l.lists, &list[k])
		l.addNumbers(list[k])
	}
}

func (l *places) addProblem(p api.Problem) {
	l.addLists(p.Domains)
	list := p.Constraints[:cap(p.Constraints)]
	for k := range list {
		l.constraints = append(l.constraints, &list[k])
		l.addNumbers(list[k].Coefs)
		vars := list[k].Vars[:cap(list[k].Vars)]
		for m := range vars {
			l.vars = append(l.vars, &vars[m])
		}
	}
}

func (l *places) addAnswers(x answered) {
	for _, own := range x.lists {
		l.addLists(own)
	}
	for _, own := range x.bests {
		l.addNumbers(own)
	}
}

func hasTwice[T comparable](list []T) bool {
	met := map[T]bool{}
	for _, x := range list {
		if met[x] {
			return true
		}
		met[x] = true
	}
	return false
}

func (l *places) overlap() bool {
	return hasTwice(l.numbers) || hasTwice(l.vars) || hasTwice(l.lists) || hasTwice(l.constraints)
}

// whole writes all that lies there.
func (l *places) whole() string {
	out := ""
	for _, x := range l.numbers {
		out += strconv.FormatInt(*x, 10) + " "
	}
	for _, x := range l.vars {
		out += strconv.Itoa(*x) + " "
	}
	for _, x := range l.lists {
		out += showNumbers(*x) + ";"
	}
	for _, x := range l.constraints {
		out += showProblem(problem(nil, *x))
	}
	return out
}

func (l *places) overwrite() {
	for _, x := range l.numbers {
		*x = 77
	}
	for _, x := range l.vars {
		*x = 77
	}
	for _, x := range l.lists {
		*x = by(77)
	}
	for _, x := range l.constraints {
		*x = times(7, 7, 7)
	}
}

// roomy is p anew, with room behind each list, also behind one that has nothing in it.
func roomy(p api.Problem) api.Problem {
	out := api.Problem{Domains: make([][]int64, 0, len(p.Domains)+2), Constraints: make([]api.Constraint, 0, len(p.Constraints)+2)}
	for _, l := range p.Domains {
		out.Domains = append(out.Domains, append(slices.Clone(l), 1, 0, 5)[:len(l)])
	}
	for _, c := range p.Constraints {
		c.Vars = append(slices.Clone(c.Vars), 0, 0)[:len(c.Vars)]
		c.Coefs = append(slices.Clone(c.Coefs), 1, 7)[:len(c.Coefs)]
		out.Constraints = append(out.Constraints, c)
	}
	_ = append(out.Domains, by(3), by(4))
	_ = append(out.Constraints, differ(0), unlike(0, by(1), 0))
	return out
}

// samples: most are answered; others are not.
func samples() []api.Problem {
	l := []api.Problem{{}, problem(on()), problem(on(nil)), problem(nil, differ()), queens(5), latin(3), magic(), problem(alike(51, span(0, 1))), problem(on(span(0, 100))), problem(alike(3, span(0, 9)), fine()...)}
	x := chance(73)
	for range 200 {
		l = append(l, x.small(), x.crowded())
	}
	for range 200 {
		p := x.small()
		x.spoil(&p)
		l = append(l, p)
	}
	return l
}

func TestNothingIsChanged(t *testing.T) {
	for k, p := range samples() {
		want := asked(p).told()
		own := roomy(p)
		var memory places
		memory.addProblem(own)
		before := memory.whole()
		if got := asked(own).told(); got != want {
			t.Errorf("sample %d: what is answered hangs on the room behind lists: %s, not %s", k, got, want)
		}
		if memory.whole() != before {
			t.Errorf("sample %d was changed", k)
		}
	}
}

func TestAnswersAreNewMemory(t *testing.T) {
	for k, p := range samples() {
		want := asked(p).told()
		own := roomy(p)
		var all, mine, theirs places
		first, second := asked(own), asked(own)
		all.addProblem(own)
		all.addAnswers(first)
		all.addAnswers(second)
		if all.overlap() {
			t.Errorf("sample %d: memory is shared", k)
		}
		mine.addAnswers(first)
		mine.overwrite()
		if second.told() != want || asked(own).told() != want {
			t.Errorf("sample %d: overwriting answers is seen", k)
		}
		theirs.addProblem(own)
		theirs.overwrite()
		if second.told() != want {
			t.Errorf("sample %d: overwriting what was handed in is seen", k)
		}
	}
}

// TestAnswersAreTheSameAgain: nothing is kept from call to call.
func TestAnswersAreTheSameAgain(t *testing.T) {
	var first []string
	for _, p := range samples() {
		first = append(first, asked(p).told())
	}
	for range 5 {
		for k, p := range slices.Backward(samples()) {
			if got := asked(p).told(); got != first[k] {
				t.Fatalf("sample %d: %s, and then %s", k, first[k], got)
			}
		}
	}
}

// TestAtOnce: calls that go on at once do not come in each other's way, also with the same problem.
func TestAtOnce(t *testing.T) {
	list := samples()
	want := make([]string, len(list))
	for k, p := range list {
		want[k] = asked(p).told()
	}
	var all sync.WaitGroup
	for range 4 {
		all.Go(func() {
			for k, p := range list {
				if got := asked(p).told(); got != want[k] {
					t.Errorf("sample %d: %s, not %s", k, got, want[k])
				}
			}
		})
	}
	all.Wait()
}

// TestSamplesAreAnswered: else the tests above would look at nothing.
func TestSamplesAreAnswered(t *testing.T) {
	solutions, errs, nones := 0, 0, 0
	for k, p := range samples() {
		x := asked(p)
		solutions += len(x.lists[1])
		switch {
		case x.errs[0] != api.OK:
			errs++
			for _, l := range x.lists {
				if l != nil {
					t.Errorf("sample %d: beside an error something is answered: %s", k, x.told())
				}
			}
			if slices.Contains(x.oks, true) || slices.ContainsFunc(x.bests, func(l []int64) bool { return l != nil }) {
				t.Errorf("sample %d: beside an error something is answered: %s", k, x.told())
			}
		case !x.oks[0]:
			nones++
		}
	}
	if solutions < 2000 || errs < 50 || nones < 50 {
		t.Error(solutions, errs, nones)
	}
}

// TestNoPanic: a panic in any of these would end the test.
func TestNoPanic(t *testing.T) {
	numbers := [][]int64{nil, {}, {0}, {1}, {-1, 0, 1}, {least}, {greatest}, {least, greatest}, {greatest, least}, {-1000000, 1000000}, span(1, 100), span(0, 100), span(1, 4)}
	vars := [][]int{nil, {}, {0}, {1}, {-1}, {2}, {least}, {greatest}, {0, 1}, {1, 1}, {0, 1, 0}, {1, 0, 0}, {0, 0, 0}, {0, 1, 1, 0}, {0, 1, 2}, {0, 1, 0, 1, 0}, make([]int, 8), make([]int, 9), make([]int, 1000)}
	for _, l := range numbers {
		for _, kind := range []int{least, -1, 0, api.Sum, api.Differ, api.Times, api.Pick, 5, greatest} {
			for _, own := range vars {
				for _, coefs := range append(numbers, by(1, 1), by(1, -1, 0), by(1000, 1000, -1000, 1)) {
					for _, op := range []int{0, api.Equal, api.AtMost, api.Unlike, greatest} {
						for _, c := range []int64{0, 5, greatest} {
							asked(problem(on(l, span(0, 2)), api.Constraint{Kind: kind, Vars: own, Coefs: coefs, Op: op, C: c}))
						}
					}
				}
			}
		}
	}
}

// TestNoPanicByChance: whatever is done to a problem.
func TestNoPanicByChance(t *testing.T) {
	x := chance(74)
	for range 20000 {
		p := x.small()
		for range 1 + x.below(6) {
			x.spoil(&p)
		}
		asked(p)
	}
}
