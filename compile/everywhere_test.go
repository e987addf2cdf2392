package compile_test

import (
	"slices"
	"strconv"
	"strings"
	"sync"
	"testing"

	"hornbook/api"
	"hornbook/compile"
	"hornbook/machine"
)

// handed is what Compile takes.
type handed struct {
	l     []api.Clause
	query api.Term
}

// told writes what it answers.
func (h handed) told() string {
	got, err := compile.Compile(h.l, h.query)
	return strconv.Itoa(int(err)) + "\n" + written(got)
}

func written(x api.Code) string {
	var out strings.Builder
	out.WriteString("query " + strconv.Itoa(x.Query) + "\n")
	for _, e := range x.Entries {
		out.WriteString(strconv.Quote(e.Name) + "/" + strconv.Itoa(e.N) + " at " + strconv.Itoa(e.At) + "\n")
	}
	for k, x := range x.Instrs {
		out.WriteString(strconv.Itoa(k) + ": " + strconv.Itoa(x.Op) + " " + strconv.Itoa(x.A) + " " + strconv.Itoa(x.B) + " " + strconv.Itoa(x.Con.Kind) + strconv.Quote(x.Con.Name) + strconv.FormatInt(x.Con.N, 10) + "\n")
	}
	return out.String()
}

// places collects where things lie that can be reached, the room behind each list included.
type places struct {
	terms   []*api.Term
	clauses []*api.Clause
}

func (p *places) addTerms(l []api.Term) {
	l = l[:cap(l)]
	for k := range l {
		p.terms = append(p.terms, &l[k])
		p.addTerms(l[k].Args)
	}
}

func (p *places) addHanded(h handed) {
	p.addTerms(h.query.Args)
	l := h.l[:cap(h.l)]
	for k := range l {
		p.clauses = append(p.clauses, &l[k])
		p.addTerms(l[k].Head.Args)
		p.addTerms(l[k].Body.Args)
	}
}

// whole writes all that lies there.
func (p *places) whole() string {
	var out strings.Builder
	top := func(t api.Term) {
		out.WriteString(strconv.Itoa(t.Kind) + " " + strconv.FormatInt(t.N, 10) + strconv.Quote(t.Name) + strconv.Itoa(len(t.Args)) + "," + strconv.Itoa(cap(t.Args)) + ";")
	}
	for _, t := range p.terms {
		top(*t)
	}
	for _, x := range p.clauses {
		top(x.Head)
		top(x.Body)
	}
	return out.String()
}

func (p *places) overwrite() {
	for _, t := range p.terms {
		*t = a("overwritten")
	}
	for _, x := range p.clauses {
		*x = api.Clause{Head: a("overwritten"), Body: i(1)}
	}
}

// roomy is a term anew, with room behind each list, also behind one that has nothing in it.
func roomy(t api.Term) api.Term {
	full := make([]api.Term, len(t.Args), len(t.Args)+2)
	for k, arg := range t.Args {
		full[k] = roomy(arg)
	}
	t.Args = append(full, a("room"), c("room", v(0)))[:len(t.Args)]
	return t
}

func (h handed) roomy() handed {
	n := len(h.l)
	l := make([]api.Clause, 0, n+2)
	for _, x := range h.l {
		l = append(l, api.Clause{Head: roomy(x.Head), Body: roomy(x.Body)})
	}
	l = append(l, api.Clause{Head: a("room"), Body: a("true")}, api.Clause{})[:n]
	return handed{l, roomy(h.query)}
}

// samples: most are compiled; others are not, for each error.
func samples(t *testing.T) []handed {
	own := program(t, library)
	var l []handed
	for _, query := range []string{
		"app(X,Y,[f(A),g(B,A),[c]])", "perm([a,[b],f(C)],X), \\+ X = [a|_], !", "(kind(X,K) -> print(K) ; bad(f(X,[a])))", "nope(f(X))", "X = f(Y,[Z,a]), copy_term(X,W), print(W)", "call(X)", "\\+ 1", "a, 1", "true",
	} {
		l = append(l, handed{own, read(t, query)}, handed{nil, read(t, query)})
	}
	x := chance(77)
	for range 300 {
		l = append(l, handed{x.program(t), x.goal(4)})
	}
	for k, none := range nones() {
		if k >= len(l) {
			break
		}
		broken := l[k].roomy()
		l = append(l, handed{l[k].l, none}, handed{append(broken.l, api.Clause{Head: none, Body: a("true")}), l[k].query}, handed{append([]api.Clause{{Head: a("p"), Body: none}}, broken.l...), l[k].query})
	}
	return append(l, handed{own, joined(many(api.MaxArity + 1))}, handed{own, nested(a("true"), api.MaxSlots+1, negated)})
}

func TestNothingIsChanged(t *testing.T) {
	for k, h := range samples(t) {
		want := h.told()
		own := h.roomy()
		var memory places
		memory.addHanded(own)
		before := memory.whole()
		if got := own.told(); got != want {
			t.Errorf("sample %d: what is answered hangs on the room behind lists: %s, not %s", k, got, want)
		}
		var again places
		again.addHanded(own)
		if again.whole() != before {
			t.Errorf("sample %d was changed", k)
		}
	}
}

// TestNothingIsKept: what was handed in is overwritten behind the call, and what came out likewise.
func TestNothingIsKept(t *testing.T) {
	for k, h := range samples(t) {
		want, own := h.told(), h.roomy()
		got, err := compile.Compile(own.l, own.query)
		var memory places
		memory.addHanded(own)
		memory.overwrite()
		if text := strconv.Itoa(int(err)) + "\n" + written(got); text != want {
			t.Errorf("sample %d: overwriting what was handed in is seen: %s, not %s", k, text, want)
		}
		if err != api.OK && !isZero(got) {
			t.Errorf("sample %d: there is code beside %v", k, err)
		}
		own = h.roomy()
		one, _ := compile.Compile(own.l, own.query)
		other, _ := compile.Compile(own.l, own.query)
		for k := range one.Instrs[:cap(one.Instrs)] {
			one.Instrs[:cap(one.Instrs)][k] = api.Instr{Op: api.Fail, A: 77}
		}
		for k := range one.Entries[:cap(one.Entries)] {
			one.Entries[:cap(one.Entries)][k] = api.Entry{Name: "overwritten"}
		}
		if err == api.OK && "0\n"+written(other) != want || own.told() != want {
			t.Errorf("sample %d: overwriting what came out is seen", k)
		}
	}
}

// TestSameAgain: what is answered hangs on nothing but what was handed in, also if many ask at once.
func TestSameAgain(t *testing.T) {
	l := samples(t)
	var want []string
	for _, h := range l {
		want = append(want, h.told())
	}
	errs := map[string]int{}
	for k := range l {
		if got := l[len(l)-1-k].told(); got != want[len(l)-1-k] {
			t.Errorf("sample %d: %s and then %s", k, want[len(l)-1-k], got)
		}
		errs[want[k][:strings.IndexByte(want[k], '\n')]]++
	}
	// Else the tests above would look at nothing.
	for _, err := range []api.Errno{api.OK, api.ErrTerm, api.ErrClause, api.ErrKind, api.ErrLarge} {
		if errs[strconv.Itoa(int(err))] == 0 {
			t.Error(errs)
		}
	}
	var all sync.WaitGroup
	for range 4 {
		all.Go(func() {
			for k, h := range l {
				if got := h.told(); got != want[k] {
					t.Errorf("sample %d: at once %s, not %s", k, got, want[k])
				}
			}
		})
	}
	all.Wait()
}

// TestCodeFits: code of a sample is such that Check takes it, with an entry for each predicate of the clauses, in their order.
func TestCodeFits(t *testing.T) {
	for k, h := range samples(t) {
		got, err := compile.Compile(h.l, h.query)
		if err != api.OK {
			continue
		}
		if err := machine.Check(got); err != api.OK {
			t.Errorf("sample %d: %v", k, err)
		}
		var want, have []string
		for _, x := range h.l {
			if name := x.Head.Name + "/" + strconv.Itoa(len(x.Head.Args)); !slices.Contains(want, name) {
				want = append(want, name)
			}
		}
		for _, e := range got.Entries {
			have = append(have, e.Name+"/"+strconv.Itoa(e.N))
		}
		if !slices.Equal(have, want) {
			t.Errorf("sample %d: entries of %v, not %v", k, have, want)
		}
	}
}

// TestNoPanic: what is no term, in each place.
func TestNoPanic(t *testing.T) {
	good := program(t, "p(X) :- q(X), !. q(1).")
	for _, none := range nones() {
		for k, h := range []handed{
			{good, none}, {nil, none}, {good, c(",", a("a"), none)}, {good, c("\\+", none)}, {good, c("p", none)},
			{[]api.Clause{{Head: none, Body: a("true")}}, a("a")}, {[]api.Clause{{Head: a("p"), Body: none}}, a("a")}, {[]api.Clause{good[0], {Head: c("p", none), Body: a("true")}}, a("a")},
			{[]api.Clause{good[0], {Head: a("p"), Body: c(";", a("a"), none)}, {Head: v(0), Body: i(1)}}, a("a")}, {[]api.Clause{{Head: none, Body: none}}, none}, {[]api.Clause{{}}, i(1)},
		} {
			if got, err := compile.Compile(h.l, h.query); err != api.ErrTerm || !isZero(got) {
				t.Errorf("%d with %s: %v", k, show(none), err)
			}
		}
	}
}
