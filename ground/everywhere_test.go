package ground_test

import (
	"slices"
	"strconv"
	"strings"
	"sync"
	"testing"

	"hornbook/api"
	"hornbook/ground"
)

// answered is what the call answers.
type answered struct {
	l   []api.Shape
	err api.Errno
}

func asked(l []api.Clause) answered {
	got, err := ground.Analyse(l)
	return answered{got, err}
}

func (x answered) told() string {
	return showShapes(x.l) + " " + x.err.Error()
}

// places collects where things lie that can be reached, the room behind each list included.
type places struct {
	terms   []*api.Term
	clauses []*api.Clause
	shapes  []*api.Shape
	rows    []*int
}

func (l *places) addTerms(list []api.Term) {
	list = list[:cap(list)]
	for k := range list {
		l.terms = append(l.terms, &list[k])
		l.addTerms(list[k].Args)
	}
}

func (l *places) addClauses(list []api.Clause) {
	list = list[:cap(list)]
	for k := range list {
		l.clauses = append(l.clauses, &list[k])
		l.addTerms(list[k].Head.Args)
		l.addTerms(list[k].Body.Args)
	}
}

func (l *places) addShapes(list []api.Shape) {
	list = list[:cap(list)]
	for k := range list {
		l.shapes = append(l.shapes, &list[k])
		rows := list[k].Rows[:cap(list[k].Rows)]
		for m := range rows {
			l.rows = append(l.rows, &rows[m])
		}
	}
}

func hasTwice[T comparable](list []T) bool {
	met := map[T]bool{}
	for _, x := range list {
		if met[x] {
			return true
		}
		met[x] = true
	}
	return false
}

func (l *places) overlap() bool {
	return hasTwice(l.terms) || hasTwice(l.clauses) || hasTwice(l.shapes) || hasTwice(l.rows)
}

// whole writes all clauses and terms that lie there.
func (l *places) whole() string {
	var out strings.Builder
	one := func(t api.Term) {
		out.WriteString(strconv.Itoa(t.Kind) + " " + strconv.FormatInt(t.N, 10) + strconv.Quote(t.Name) + strconv.Itoa(len(t.Args)) + ",")
	}
	for _, x := range l.terms {
		one(*x)
	}
	for _, x := range l.clauses {
		one(x.Head)
		one(x.Body)
	}
	return out.String()
}

func (l *places) overwrite() {
	for _, x := range l.terms {
		*x = a("overwritten")
	}
	for _, x := range l.clauses {
		*x = fact(a("overwritten"))
	}
	for _, x := range l.shapes {
		*x = api.Shape{Name: "overwritten", N: 7, Rows: []int{7}}
	}
	for _, x := range l.rows {
		*x = 7
	}
}

// roomy is t anew, with room behind each list, also behind one that has nothing in it.
func roomy(t api.Term) api.Term {
	full := make([]api.Term, len(t.Args), len(t.Args)+2)
	for k, arg := range t.Args {
		full[k] = roomy(arg)
	}
	t.Args = append(full, a("room"), c("room", v(0)))[:len(t.Args)]
	return t
}

func roomyClauses(l []api.Clause) []api.Clause {
	full := make([]api.Clause, len(l), len(l)+2)
	for k, x := range l {
		full[k] = rule(roomy(x.Head), roomy(x.Body))
	}
	return append(full, fact(c("room", v(0))), rule(a("room"), a("room")))[:len(l)]
}

// samples: most are answered; others are not.
func samples(t *testing.T) [][]api.Clause {
	l := [][]api.Clause{nil, {}, clauses(t, app+parts), clauses(t, "p. q(X). p(X,Y) :- q(Y), p, p(Y,X)."), {fact(c("p", vars(8)...)), fact(c("q", c("f", vars(10)...)))}}
	x := chance(58)
	for range 200 {
		l = append(l, x.program(8))
	}
	for k, bad := range nones() {
		some := l[k%len(l)]
		l = append(l, append(slices.Clone(some), rule(a("a"), bad)), append(slices.Clone(some), fact(bad)))
	}
	for k, bad := range slices.Concat(wrong, notPlain, large) {
		l = append(l, append(slices.Clone(l[k%len(l)]), bad))
	}
	return l
}

func TestNothingIsChanged(t *testing.T) {
	for k, l := range samples(t) {
		want := asked(l).told()
		own := roomyClauses(l)
		var memory places
		memory.addClauses(own)
		before := memory.whole()
		if got := asked(own).told(); got != want {
			t.Errorf("sample %d: what is answered hangs on the room behind lists: %s, not %s", k, got, want)
		}
		if memory.whole() != before {
			t.Errorf("sample %d was changed", k)
		}
	}
}

func TestAnswersAreNewMemory(t *testing.T) {
	for k, l := range samples(t) {
		want := asked(l).told()
		own := roomyClauses(l)
		var all, mine, theirs places
		first, second := asked(own), asked(own)
		all.addShapes(first.l)
		all.addShapes(second.l)
		if all.overlap() {
			t.Errorf("sample %d: memory is shared", k)
		}
		mine.addShapes(first.l)
		mine.overwrite()
		if second.told() != want || asked(own).told() != want {
			t.Errorf("sample %d: overwriting answers is seen", k)
		}
		theirs.addClauses(own)
		theirs.overwrite()
		if second.told() != want {
			t.Errorf("sample %d: overwriting what was handed in is seen", k)
		}
	}
}

// TestAnswersAreTheSameAgain: nothing is kept from call to call, and the order of a map is not seen.
func TestAnswersAreTheSameAgain(t *testing.T) {
	var first []string
	for _, l := range samples(t) {
		first = append(first, asked(l).told())
	}
	for range 10 {
		for k, l := range samples(t) {
			if got := asked(l).told(); got != first[k] {
				t.Fatalf("sample %d: %s, and then %s", k, first[k], got)
			}
		}
	}
}

// TestAtOnce: calls that go on at once do not come in each other's way, also with the same clauses.
func TestAtOnce(t *testing.T) {
	list := samples(t)
	want := make([]string, len(list))
	for k, l := range list {
		want[k] = asked(l).told()
	}
	var all sync.WaitGroup
	for range 4 {
		all.Go(func() {
			for k, l := range list {
				if got := asked(l).told(); got != want[k] {
					t.Errorf("sample %d: %s, not %s", k, got, want[k])
				}
			}
		})
	}
	all.Wait()
}

// TestSamplesAreAnswered: else the tests above would look at nothing.
func TestSamplesAreAnswered(t *testing.T) {
	rows, errs := 0, 0
	for _, l := range samples(t) {
		x := asked(l)
		for _, shape := range x.l {
			rows += len(shape.Rows)
		}
		switch {
		case x.err == api.OK:
		case x.l != nil:
			t.Errorf("beside %v something is answered: %s", x.err, x.told())
		default:
			errs++
		}
	}
	if rows < 2000 || errs < 150 {
		t.Error(rows, errs)
	}
}

// TestNoPanic: a panic in any of these would end the test.
func TestNoPanic(t *testing.T) {
	odd := append(nones(), v(0), v(1), v(10), v(63), v(64), v(api.MaxVar), i(3), i(least), a(""), a("a"), a("true"), a("!"), c("p", v(0)), c("p", v(1)), c("p", a("a")), c("\\+", a("a")), c(",", a("a"), a("b")), c(",", v(0), v(0)), c(",", a("true"), c("p", v(0))), c(":-", a("a"), a("b")),
		c("call", v(0)), of("p", 9), of("p", api.MaxArity), c("p", vars(50)...), c("p", vars(8)...), c("p", c("f", vars(11)...)))
	for _, x := range odd {
		for _, y := range odd {
			asked([]api.Clause{fact(c("p", a("a"))), rule(x, y)})
			asked([]api.Clause{rule(c("p", v(0)), x), rule(y, a("true"))})
			asked([]api.Clause{rule(c("p", v(0)), c(",", x, c("p", v(0)))), rule(c("p", v(0)), c(",", c("p", v(0)), y))})
		}
	}
}
