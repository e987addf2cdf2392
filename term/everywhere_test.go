package term_test

import (
	"strconv"
	"strings"
	"testing"

	"hornbook/api"
	"hornbook/term"
)

// given is what the calls are handed; each takes of it what it needs.
type given struct {
	x, y api.Term
	s, u []api.Bind
	path []int
	from int64
}

// answer is what any of the calls may tell.
type answer struct {
	term  api.Term
	binds []api.Bind
	vars  []int64
	n, m  int64
	is    bool
	err   api.Errno
}

// call: takes says which of x, y, s and u it is handed.
type call struct {
	name, takes string
	do          func(g given) answer
}

func calls() []call {
	return []call{
		{"Check", "x", func(g given) (r answer) { r.err = term.Check(g.x); return }},
		{"Compare", "xy", func(g given) (r answer) {
			n, err := term.Compare(g.x, g.y)
			return answer{n: int64(n), err: err}
		}},
		{"Measure", "x", func(g given) (r answer) {
			n, m, err := term.Measure(g.x)
			return answer{n: int64(n), m: int64(m), err: err}
		}},
		{"Vars", "x", func(g given) (r answer) { r.vars, r.err = term.Vars(g.x); return }},
		{"Rename", "x", func(g given) (r answer) { r.term, r.n, r.err = term.Rename(g.x, g.from); return }},
		{"Variant", "xy", func(g given) (r answer) { r.is, r.err = term.Variant(g.x, g.y); return }},
		{"Apply", "xs", func(g given) (r answer) { r.term, r.err = term.Apply(g.x, g.s); return }},
		{"Compose", "su", func(g given) (r answer) { r.binds, r.err = term.Compose(g.s, g.u); return }},
		{"Match", "xy", func(g given) (r answer) { r.binds, r.is, r.err = term.Match(g.x, g.y); return }},
		{"General", "xy", func(g given) (r answer) { r.term, r.err = term.General(g.x, g.y); return }},
		{"At", "x", func(g given) (r answer) { r.term, r.err = term.At(g.x, g.path); return }},
		{"Put", "xy", func(g given) (r answer) { r.term, r.err = term.Put(g.x, g.path, g.y); return }},
	}
}

// with puts a term in the place of one of what is handed in.
func (g given) with(place rune, t api.Term) given {
	switch place {
	case 'x':
		g.x = t
	case 'y':
		g.y = t
	case 's':
		g.s = append(g.s[:len(g.s):len(g.s)], b(api.MaxVar, t))
	case 'u':
		g.u = append(g.u[:len(g.u):len(g.u)], b(api.MaxVar, t))
	}
	return g
}

// isEmpty: but for the error.
func (r answer) isEmpty() bool {
	return isZero(r.term) && len(r.binds) == 0 && len(r.vars) == 0 && r.n == 0 && r.m == 0 && !r.is
}

// writeWhole writes all that can be reached from a list of terms, the room behind each list included.
func writeWhole(out *strings.Builder, list []api.Term) {
	out.WriteString(strconv.Itoa(len(list)))
	out.WriteByte('[')
	for _, t := range list[:cap(list)] {
		for _, n := range []int64{int64(t.Kind), t.N} {
			out.WriteString(strconv.FormatInt(n, 10))
			out.WriteByte(' ')
		}
		out.WriteString(strconv.Quote(t.Name))
		writeWhole(out, t.Args)
	}
	out.WriteByte(']')
}

func writeBinds(out *strings.Builder, list []api.Bind) {
	out.WriteString(strconv.Itoa(len(list)))
	for _, x := range list[:cap(list)] {
		out.WriteByte(' ')
		out.WriteString(strconv.FormatInt(x.Var, 10))
		writeWhole(out, []api.Term{x.To})
	}
}

func (g given) whole() string {
	var out strings.Builder
	writeWhole(&out, []api.Term{g.x, g.y})
	writeBinds(&out, g.s)
	writeBinds(&out, g.u)
	for _, k := range g.path[:cap(g.path)] {
		out.WriteByte(' ')
		out.WriteString(strconv.Itoa(k))
	}
	return out.String()
}

// told leaves the room behind lists out: there an answer may hold what it likes.
func (r answer) told() string {
	var out strings.Builder
	out.WriteString(show(r.term) + " " + showBinds(r.binds))
	for _, n := range append([]int64{r.n, r.m, int64(r.err)}, r.vars...) {
		out.WriteByte(' ')
		out.WriteString(strconv.FormatInt(n, 10))
	}
	return out.String() + " " + strconv.FormatBool(r.is)
}

// places collects where the terms and binds lie that can be reached, the room behind each list included.
type places struct {
	terms []*api.Term
	binds []*api.Bind
	vars  []*int64
	path  []*int
}

func (p *places) addTerms(list []api.Term) {
	list = list[:cap(list)]
	for k := range list {
		p.terms = append(p.terms, &list[k])
		p.addTerms(list[k].Args)
	}
}

func (p *places) addBinds(list []api.Bind) {
	list = list[:cap(list)]
	for k := range list {
		p.binds = append(p.binds, &list[k])
		p.addTerms(list[k].To.Args)
	}
}

func (p *places) addGiven(g given) {
	p.addTerms(g.x.Args)
	p.addTerms(g.y.Args)
	p.addBinds(g.s)
	p.addBinds(g.u)
	for k := range g.path[:cap(g.path)] {
		p.path = append(p.path, &g.path[:cap(g.path)][k])
	}
}

func (p *places) addAnswer(r answer) {
	p.addTerms(r.term.Args)
	p.addBinds(r.binds)
	for k := range r.vars[:cap(r.vars)] {
		p.vars = append(p.vars, &r.vars[:cap(r.vars)][k])
	}
}

func hasTwice[T comparable](list []T) bool {
	met := map[T]bool{}
	for _, x := range list {
		if met[x] {
			return true
		}
		met[x] = true
	}
	return false
}

func (p *places) overlap() bool {
	return hasTwice(p.terms) || hasTwice(p.binds) || hasTwice(p.vars)
}

func (p *places) overwrite() {
	for _, x := range p.terms {
		*x = a("overwritten")
	}
	for _, x := range p.binds {
		*x = b(77, a("overwritten"))
	}
	for _, x := range p.vars {
		*x = 77
	}
	for _, x := range p.path {
		*x = 77
	}
}

// roomy is t anew, with room behind each list, also behind one that has nothing in it.
func roomy(t api.Term) api.Term {
	full := make([]api.Term, len(t.Args)+2)
	for k, arg := range t.Args {
		full[k] = roomy(arg)
	}
	full[len(t.Args)], full[len(t.Args)+1] = a("room"), c("room", v(0))
	t.Args = full[:len(t.Args)]
	return t
}

func roomyBinds(s []api.Bind) []api.Bind {
	full := make([]api.Bind, len(s)+2)
	for k, x := range s {
		full[k] = b(x.Var, roomy(x.To))
	}
	full[len(s)], full[len(s)+1] = b(5, a("room")), b(4, c("room", v(0)))
	return full[:len(s)]
}

func (g given) roomy() given {
	path := append(append(make([]int, 0, len(g.path)+2), g.path...), 8, 9)
	return given{roomy(g.x), roomy(g.y), roomyBinds(g.s), roomyBinds(g.u), path[:len(g.path)], g.from}
}

// samples: each call answers OK of each of these, and most with compounds inside.
func samples() []given {
	x := c("f", v(0), c("g", v(1), a("a")), c("g", v(0), i(3)), v(2))
	y := c("f", c("h", v(2), a("b")), c("g", v(1), a("a")), c("g", c("h", v(2), a("b")), i(3)), c("h", v(2), a("b")))
	s := []api.Bind{b(0, c("h", v(1), v(3))), b(2, c("h", a("b"), v(1))), b(6, a("a"))}
	u := []api.Bind{b(1, c("k", v(0))), b(2, c("k", v(9))), b(3, a("e")), b(7, c("m", c("m", i(1)))), b(8, v(8))}
	return []given{
		{x, y, s, u, []int{1}, 3}, {y, x, u, s, []int{2, 0}, 0}, {x, x, s, s, nil, 9}, {c("f", v(0), v(0), c("p", v(0), v(0))), y, s, u, []int{2, 1}, 1},
		{v(0), y, nil, u, nil, 0}, {a("a"), i(1), s, nil, nil, 0}, {y, a("a"), s, u, []int{0, 1}, 0},
	}
}

func TestSamplesAreGood(t *testing.T) {
	for k, g := range samples() {
		for _, f := range calls() {
			if r := f.do(g); r.err != api.OK {
				t.Errorf("%s of sample %d: %v", f.name, k, r.err)
			}
		}
	}
}

func TestWhatIsHandedInIsNotChanged(t *testing.T) {
	for k, sample := range samples() {
		for _, f := range calls() {
			g := sample.roomy()
			before := g.whole()
			r := f.do(g)
			if g.whole() != before {
				t.Errorf("%s of sample %d changed what it was handed", f.name, k)
			}
			if want := f.do(sample).told(); r.told() != want {
				t.Errorf("%s of sample %d hangs on the room behind lists: %s", f.name, k, r.told())
			}
		}
	}
}

func TestWrongInputIsNotChanged(t *testing.T) {
	for k, sample := range samples() {
		for _, f := range calls() {
			g := sample.roomy()
			g.path, g.from = []int{99}, -1
			g.s[:cap(g.s)][cap(g.s)-1].Var = -1
			g.s = g.s[:cap(g.s)]
			before := g.whole()
			f.do(g)
			if g.whole() != before {
				t.Errorf("%s of sample %d, made wrong, changed what it was handed", f.name, k)
			}
		}
	}
}

func TestAnswersAreNewMemory(t *testing.T) {
	for k, sample := range samples() {
		for _, f := range calls() {
			g := sample.roomy()
			r := f.do(g)
			var all places
			all.addGiven(g)
			all.addAnswer(r)
			all.addAnswer(f.do(g))
			if all.overlap() {
				t.Errorf("%s of sample %d shares memory", f.name, k)
			}
		}
	}
}

func TestAnswersStandAlone(t *testing.T) {
	for k, sample := range samples() {
		for _, f := range calls() {
			g := sample.roomy()
			before := g.whole()
			var own places
			first := f.do(g)
			told := first.told()
			own.addAnswer(first)
			own.overwrite()
			if g.whole() != before {
				t.Errorf("%s of sample %d: overwriting the answer is seen in what was handed in", f.name, k)
			}
			second := f.do(g)
			if second.told() != told {
				t.Errorf("%s of sample %d: overwriting the answer is seen in the next one", f.name, k)
			}
			var theirs places
			theirs.addGiven(g)
			theirs.overwrite()
			if second.told() != told {
				t.Errorf("%s of sample %d: overwriting what was handed in is seen in the answer", f.name, k)
			}
		}
	}
}

func TestAnswersAreTheSameAgain(t *testing.T) {
	for k, g := range samples() {
		for _, f := range calls() {
			told := f.do(g).told()
			for range 30 {
				if again := f.do(g).told(); again != told {
					t.Fatalf("%s of sample %d: %s, and then %s", f.name, k, told, again)
				}
			}
		}
	}
}

// TestNoTerm: ErrTerm comes ahead of all other errors, from each place, with nothing beside it.
func TestNoTerm(t *testing.T) {
	good := samples()[0]
	wrong := given{good.x, good.y, []api.Bind{b(-1, a("a")), b(-1, v(0))}, []api.Bind{b(3, a("a")), b(3, v(0))}, []int{-1}, -1}
	for _, x := range nones() {
		for _, f := range calls() {
			for _, place := range f.takes {
				for k, g := range []given{good, wrong, {x: x, y: x}} {
					if r := f.do(g.with(place, x)); r.err != api.ErrTerm || !r.isEmpty() {
						t.Errorf("%s with %s as %c, way %d: %s", f.name, show(x), place, k, r.told())
					}
				}
			}
		}
	}
}

// TestNoPanic: a panic in any of these would end the test.
func TestNoPanic(t *testing.T) {
	terms := append(pool()[:20], nones()...)
	paths := [][]int{nil, {0}, {-1}, {0, 0}, {1, 1, 1}, {1 << 62}}
	binds := [][]api.Bind{nil, {{}}, {{}, {}}, {b(0, c("g", v(0))), b(1, v(0))}, {b(1, v(0)), b(0, v(1))}, {b(-1<<63, v(0))}}
	for k, x := range terms {
		for m, y := range terms {
			g := given{x, y, binds[k%len(binds)], binds[m%len(binds)], paths[(k+m)%len(paths)], int64(m-2) * (api.MaxVar / 8)}
			for _, f := range calls() {
				if r := f.do(g); r.err != api.OK && !r.isEmpty() {
					t.Errorf("%s of %s and %s: %s", f.name, show(x), show(y), r.told())
				}
			}
		}
	}
}

// TestDeep: as many parts nested in one another as the document bounds.
func TestDeep(t *testing.T) {
	const n = 1<<16 - 1
	x := deep(n, func(k int) api.Term { return v(int64(k)) })
	y := deep(n, func(k int) api.Term { return i(int64(k)) })
	path := make([]int, n)
	for k := range path {
		path[k] = 1
	}
	if size, depth, err := term.Measure(x); size != 2*n+1 || depth != n+1 || err != api.OK {
		t.Error("Measure", size, depth, err)
	}
	if l, err := term.Vars(x); len(l) != n || err != api.OK {
		t.Error("Vars", len(l), err)
	}
	if got, err := term.Compare(x, y); got != -1 || err != api.OK {
		t.Error("Compare", got, err)
	}
	if z, next, err := term.Rename(x, 0); !same(z, x) || next != n || err != api.OK {
		t.Error("Rename", next, err)
	}
	if is, err := term.Variant(x, y); is || err != api.OK {
		t.Error("Variant", is, err)
	}
	s, is, err := term.Match(x, y)
	if len(s) != n || !is || err != api.OK {
		t.Error("Match", len(s), is, err)
	}
	if z, err := term.Apply(x, s); !same(z, y) || err != api.OK {
		t.Error("Apply", err)
	}
	if u, err := term.Compose(s, s); !sameBinds(u, s) || err != api.OK {
		t.Error("Compose", err)
	}
	if z, err := term.General(x, y); !same(z, x) || err != api.OK {
		t.Error("General", err)
	}
	if z, err := term.At(x, path); !same(z, a("[]")) || err != api.OK {
		t.Error("At", err)
	}
	if z, err := term.Put(x, path[:n-1], a("[]")); !same(z, deep(n-1, func(k int) api.Term { return v(int64(k)) })) || err != api.OK {
		t.Error("Put", err)
	}
	if z, err := term.Put(x, path, api.Term{}); !isZero(z) || err != api.ErrTerm {
		t.Error("Put", err)
	}
}
