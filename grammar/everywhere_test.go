package grammar_test

import (
	"strconv"
	"strings"
	"testing"

	"hornbook/api"
	"hornbook/grammar"
)

// handed is what the calls of the chapter take: a rule, and a body and two terms.
type handed struct {
	rule, body, list, rest api.Term
}

func (h handed) all() []api.Term { return []api.Term{h.rule, h.body, h.list, h.rest} }

// answered is what they answer.
type answered struct {
	clause, goal api.Term
	errs         [2]api.Errno
}

func (h handed) asked() answered {
	var x answered
	x.clause, x.errs[0] = grammar.Translate(h.rule)
	x.goal, x.errs[1] = grammar.Phrase(h.body, h.list, h.rest)
	return x
}

func (x answered) told() string {
	return show(x.clause) + x.errs[0].Error() + show(x.goal) + x.errs[1].Error()
}

// places collects where terms lie that can be reached, the room behind each list included.
type places []*api.Term

func (l *places) add(terms ...api.Term) {
	for _, t := range terms {
		args := t.Args[:cap(t.Args)]
		for k := range args {
			*l = append(*l, &args[k])
			l.add(args[k])
		}
	}
}

func (l places) overlap() bool {
	met := map[*api.Term]bool{}
	for _, x := range l {
		if met[x] {
			return true
		}
		met[x] = true
	}
	return false
}

func (l places) overwrite() {
	for _, x := range l {
		*x = a("overwritten")
	}
}

// whole writes all that lies there.
func (l places) whole() string {
	var out strings.Builder
	for _, t := range l {
		out.WriteString(strconv.Itoa(t.Kind) + " " + strconv.FormatInt(t.N, 10) + strconv.Quote(t.Name) + strconv.Itoa(len(t.Args)) + ",")
	}
	return out.String()
}

// roomy is t anew, with room behind each list, also behind one that has nothing in it.
func roomy(t api.Term) api.Term {
	full := make([]api.Term, len(t.Args), len(t.Args)+3)
	for k, arg := range t.Args {
		full[k] = roomy(arg)
	}
	t.Args = append(full, a("room"), c("room", v(0)), a("room"))[:len(t.Args)]
	return t
}

func (h handed) roomy() handed {
	return handed{roomy(h.rule), roomy(h.body), roomy(h.list), roomy(h.rest)}
}

// samples: most are answered, with each line of the table between terms that have parts; others are not.
func samples(t *testing.T) []handed {
	var l []handed
	for _, s := range []string{"X", "a,b", "a;b;c", "a->b;c", "\\+ a,b", "\\+ (a;\\+ b)", "[]", "[f(X),[Y],b]", "{}", "{X}", "{p(f(X)),(q;Y)}", "{},{a},!", "!,X", "call(f(X),[Y])", "a(f(X),[b|Y]),b", "(a,X;[b],{c(X)};!),\\+ d(X)", "1", "a,[b|X]", "=", "{1}"} {
		body := read(t, s)
		l = append(l, handed{arrow(c("s", c("f", v(0), v(3))), body), body, read(t, "[a,g(X),[Y]]"), read(t, "[h(Y)]")}, handed{arrow(a("s"), body), body, v(2), v(2)}, handed{arrow(a("s"), body), body, a("[]"), i(3)})
	}
	x := chance(24)
	for range 200 {
		l = append(l, handed{x.rule(), x.body(3, 100), x.data(3), x.data(3)})
	}
	for k, none := range nones() {
		h := l[k%len(l)]
		*[]*api.Term{&h.body, &h.list, &h.rest}[k%3], h.rule = none, none
		l = append(l, h)
	}
	return l
}

func TestNothingIsChanged(t *testing.T) {
	for k, h := range samples(t) {
		want := h.asked().told()
		own := h.roomy()
		var memory places
		memory.add(own.all()...)
		before := memory.whole()
		if got := own.asked().told(); got != want {
			t.Errorf("sample %d: what is answered hangs on the room behind lists: %s, not %s", k, got, want)
		}
		if memory.whole() != before {
			t.Errorf("sample %d was changed", k)
		}
	}
}

func TestAnswersAreNewMemory(t *testing.T) {
	for k, h := range samples(t) {
		want := h.asked().told()
		own := h.roomy()
		var all, mine, theirs places
		first, second := own.asked(), own.asked()
		all.add(own.all()...)
		all.add(first.clause, first.goal, second.clause, second.goal)
		if all.overlap() {
			t.Errorf("sample %d: memory is shared", k)
		}
		mine.add(first.clause, first.goal)
		mine.overwrite()
		if second.told() != want || own.asked().told() != want {
			t.Errorf("sample %d: overwriting answers is seen", k)
		}
		theirs.add(own.all()...)
		theirs.overwrite()
		if second.told() != want {
			t.Errorf("sample %d: overwriting what was handed in is seen", k)
		}
	}
}

// TestSharedTerms: what is handed in may have its own parts in several places.
func TestSharedTerms(t *testing.T) {
	x := c("f", v(0))
	body := c(",", c("a", x), c(";", c("{}", x), list(a("[]"), x, x)))
	h := handed{arrow(c("s", x, x), body), body, x, x}
	got := h.asked()
	var all places
	all.add(got.clause, got.goal, x)
	if all.overlap() || got.told() != h.roomy().asked().told() {
		t.Error(got.told())
	}
}

// TestAnswersAreTheSameAgain: nothing is kept from call to call.
func TestAnswersAreTheSameAgain(t *testing.T) {
	var first []string
	for _, h := range samples(t) {
		first = append(first, h.asked().told())
	}
	for range 5 {
		for k, h := range samples(t) {
			if got := h.asked().told(); got != first[k] {
				t.Fatalf("sample %d: %s, and then %s", k, first[k], got)
			}
		}
	}
}

// TestSamplesAreAnswered: else the tests above would look at nothing.
func TestSamplesAreAnswered(t *testing.T) {
	var answers, errs [2]int
	for _, h := range samples(t) {
		x := h.asked()
		for k, got := range []api.Term{x.clause, x.goal} {
			if x.errs[k] != api.OK {
				errs[k]++
			} else {
				answers[k]++
			}
			if isZero(got) == (x.errs[k] == api.OK) {
				t.Errorf("beside %v: %s", x.errs[k], show(got))
			}
		}
	}
	for k := range answers {
		if answers[k] < 100 || errs[k] < 100 {
			t.Error(answers, errs)
		}
	}
}

// TestNoPanic: a panic in any of these would end the test.
func TestNoPanic(t *testing.T) {
	odd := append(nones()[:100], v(0), v(api.MaxVar), i(3), i(least), a(""), a("[]"), a("{}"), a("!"), a("call"), a("-->"), c("call", v(0)), c("{}", i(1)), c("\\+", i(1)), c(".", a("a"), v(0)), c(",", a("a"), a("b")), c(",", v(api.MaxVar), v(0)), of("call", 50), of("a", 50), of("-->", 2))
	for _, x := range odd {
		grammar.Translate(x)
		for _, y := range odd {
			grammar.Translate(arrow(x, y))
			grammar.Translate(arrow(a("s"), c(",", x, y)))
			for _, z := range odd[90:] {
				if got, err := grammar.Phrase(x, y, z); isZero(got) == (err == api.OK) {
					t.Errorf("%s, %s, %s: %s, %v", show(x), show(y), show(z), show(got), err)
				}
			}
		}
	}
}
