package machine_test

import (
	"slices"
	"strconv"
	"strings"
	"sync"
	"testing"

	"hornbook/api"
	"hornbook/machine"
)

// handed is what the calls of the chapter take.
type handed struct {
	code  api.Code
	query api.Term
}

// told writes what they answer: Check's error, and the outcomes behind one another.
func (h handed) told() string {
	out := strconv.Itoa(int(machine.Check(h.code))) + "\n"
	m, err := machine.New(h.code, h.query)
	out += strconv.Itoa(int(err)) + "\n"
	for range 6 {
		out += showOutcome(m.Next(80)) + "\n"
	}
	return out
}

// places collects where things lie that can be reached, the room behind each list included.
type places struct {
	terms   []*api.Term
	instrs  []*api.Instr
	entries []*api.Entry
}

func (l *places) addTerms(list []api.Term) {
	list = list[:cap(list)]
	for k := range list {
		l.terms = append(l.terms, &list[k])
		l.addTerms(list[k].Args)
	}
}

func (l *places) addHanded(h handed) {
	l.addTerms(h.query.Args)
	instrs, entries := h.code.Instrs[:cap(h.code.Instrs)], h.code.Entries[:cap(h.code.Entries)]
	for k := range instrs {
		l.instrs = append(l.instrs, &instrs[k])
	}
	for k := range entries {
		l.entries = append(l.entries, &entries[k])
	}
}

func (l *places) addOutcome(o api.Outcome) {
	l.addTerms(o.Term.Args)
	l.addTerms(o.Ball.Args)
}

// overlap: does a term lie in two places that are one?
func (l *places) overlap() bool {
	met := map[*api.Term]bool{}
	for _, x := range l.terms {
		if met[x] {
			return true
		}
		met[x] = true
	}
	return false
}

func (l *places) overwrite() {
	for _, x := range l.terms {
		*x = a("overwritten")
	}
	for _, x := range l.instrs {
		*x = api.Instr{Op: api.Builtin, Con: pred("nl", 0)}
	}
	for _, x := range l.entries {
		*x = api.Entry{Name: "overwritten"}
	}
}

// whole writes all that lies there.
func (l *places) whole() string {
	var out strings.Builder
	for _, t := range l.terms {
		out.WriteString(strconv.Itoa(t.Kind) + " " + strconv.FormatInt(t.N, 10) + strconv.Quote(t.Name) + strconv.Itoa(len(t.Args)) + ",")
	}
	for _, x := range l.instrs {
		out.WriteString(strconv.Itoa(x.Op) + " " + strconv.Itoa(x.A) + " " + strconv.Itoa(x.B) + " " + strconv.Itoa(x.Con.Kind) + strconv.Quote(x.Con.Name) + strconv.FormatInt(x.Con.N, 10) + ",")
	}
	for _, x := range l.entries {
		out.WriteString(strconv.Quote(x.Name) + strconv.Itoa(x.N) + " " + strconv.Itoa(x.At) + ",")
	}
	return out.String()
}

// roomy is t anew, with room behind each list, also behind one that has nothing in it.
func roomy(t api.Term) api.Term {
	full := make([]api.Term, len(t.Args), len(t.Args)+2)
	for k, arg := range t.Args {
		full[k] = roomy(arg)
	}
	t.Args = append(full, a("room"), c("room", v(0)))[:len(t.Args)]
	return t
}

func (h handed) roomy() handed {
	h.query = roomy(h.query)
	instrs, entries := len(h.code.Instrs), len(h.code.Entries)
	h.code.Instrs = slices.Concat(h.code.Instrs, []api.Instr{{Op: api.Fail}, {}})[:instrs]
	h.code.Entries = slices.Concat(h.code.Entries, []api.Entry{{Name: "room"}, {Name: "true"}})[:entries]
	return h
}

// samples: most are answered, with compounds and variables in many places; others are not.
func samples(t *testing.T) []handed {
	var l []handed
	for _, query := range []string{
		"app(X,Y,[f(A),g(B,A),[c]])", "rev([a,f(B),[c,D]],X)", "turn([a,B|C],[],f(X))", "has(f(X),[a,Y,f(b),f(X,X),f(Z)])", "perm([a,[b],f(C)],X)", "bad(f(X,[a]))", "odd(X,Y,Z)", "odd(f(X),Y,X)",
		"X = f(Y,[Z,a]), copy_term(X,W), print(W)", "X =.. [f,g(a),Y], functor(Z,f,3), arg(1,X,V)", "app(X,Y,[f(A),b]), throw(k(X,X,Y))", "sort([f(b),f(a)],L), atom_chars(abc,K)", "nope(f(X))", "has(X,[f(A),f(B)]), print(X), fail",
	} {
		l = append(l, handed{compiled(t, library, read(t, query)), read(t, query)})
	}
	x := chance(99)
	for range 300 {
		l = append(l, handed{x.code(), c("q", c("f", v(4), x.query()), x.query())})
	}
	for k, none := range nones() {
		l = append(l, handed{l[k].code, none})
	}
	for k := range 60 {
		broken := l[k].roomy()
		switch k % 4 {
		case 0:
			broken.code.Instrs[x.below(len(broken.code.Instrs))].B = 300
		case 1:
			broken.code.Query = len(broken.code.Instrs)
		case 2:
			broken.code.Entries = append(broken.code.Entries, api.Entry{Name: "fail"})
		case 3:
			broken.code.Instrs = broken.code.Instrs[:0]
		}
		l = append(l, broken)
	}
	return l
}

func TestNothingIsChanged(t *testing.T) {
	for k, h := range samples(t) {
		want := h.told()
		own := h.roomy()
		var memory places
		memory.addHanded(own)
		before := memory.whole()
		if got := own.told(); got != want {
			t.Errorf("sample %d: what is answered hangs on the room behind lists: %s, not %s", k, got, want)
		}
		if memory.whole() != before {
			t.Errorf("sample %d was changed", k)
		}
	}
}

// TestNothingIsKept: what was handed in is overwritten ahead of the first outcome, behind it, and behind the second.
func TestNothingIsKept(t *testing.T) {
	for k, h := range samples(t) {
		for first := range 3 {
			want, own := h.roomy(), h.roomy()
			m, err := machine.New(own.code, own.query)
			n, _ := machine.New(want.code, want.query)
			if err != api.OK {
				continue
			}
			for step := range 6 {
				if step == first {
					var theirs places
					theirs.addHanded(own)
					theirs.overwrite()
				}
				if got, want := showOutcome(m.Next(80)), showOutcome(n.Next(80)); got != want {
					t.Errorf("sample %d: overwriting what was handed in is seen: %s, not %s", k, got, want)
				}
			}
		}
	}
}

func TestOutcomesAreNewMemory(t *testing.T) {
	for k, h := range samples(t) {
		own := h.roomy()
		want := own.told()
		var memory places
		memory.addHanded(own)
		for range 2 {
			m, _ := machine.New(own.code, own.query)
			for range 6 {
				memory.addOutcome(m.Next(80))
			}
		}
		if memory.overlap() {
			t.Errorf("sample %d: memory is shared", k)
		}
		// What the caller does with outcomes is not seen.
		m, err := machine.New(own.code, own.query)
		got := strconv.Itoa(int(machine.Check(own.code))) + "\n" + strconv.Itoa(int(err)) + "\n"
		for range 6 {
			o := m.Next(80)
			got += showOutcome(o) + "\n"
			var mine places
			mine.addOutcome(o)
			mine.overwrite()
		}
		if got != want || own.told() != want {
			t.Errorf("sample %d: overwriting outcomes is seen: %s, not %s", k, got, want)
		}
	}
}

// TestSameAgain: what is told hangs on nothing but what was handed in, also if machines go on by turns or at once.
func TestSameAgain(t *testing.T) {
	l := samples(t)
	var want []string
	var machines []*machine.Machine
	for _, h := range l {
		want = append(want, h.told())
		m, _ := machine.New(h.code, h.query)
		machines = append(machines, m)
	}
	got := make([]string, len(l))
	for range 6 {
		for k, m := range machines {
			got[k] += showOutcome(m.Next(80)) + "\n"
		}
	}
	for k, h := range l {
		if !strings.HasSuffix(want[k], got[k]) {
			t.Errorf("sample %d: by turns %s, not %s", k, got[k], want[k])
		}
		if again := h.told(); again != want[k] {
			t.Errorf("sample %d: %s and then %s", k, want[k], again)
		}
	}
	var all sync.WaitGroup
	for range 4 {
		all.Go(func() {
			for k, h := range l {
				if again := h.told(); again != want[k] {
					t.Errorf("sample %d: at once %s, not %s", k, again, want[k])
				}
			}
		})
	}
	all.Wait()
}

// TestZeroBeside: what is not said of an outcome is zero, and no machine is beside an error.
func TestZeroBeside(t *testing.T) {
	kinds, errs := map[int]int{}, 0
	for k, h := range samples(t) {
		m, err := machine.New(h.code, h.query)
		if (m == nil) != (err != api.OK) {
			t.Errorf("sample %d: a machine beside %v", k, err)
		}
		if err != api.OK {
			errs++
			continue
		}
		over := false
		for range 6 {
			o := m.Next(80)
			kinds[o.Kind]++
			if isZero(o.Term) != (o.Kind != api.Answer) || isZero(o.Ball) != (o.Kind != api.Thrown) || o.Steps < 0 || o.Steps > 80 {
				t.Errorf("sample %d: %s", k, showOutcome(o))
			}
			if over && showOutcome(o) != showOutcome(api.Outcome{Kind: api.None}) {
				t.Errorf("sample %d: behind the end %s", k, showOutcome(o))
			}
			over = over || o.Kind != api.Answer
		}
	}
	// Else the tests above would look at nothing.
	for _, kind := range []int{api.Answer, api.None, api.Thrown, api.Out} {
		if kinds[kind] < 20 {
			t.Error(kinds)
		}
	}
	if errs < 50 {
		t.Error(errs)
	}
}

// TestNoPanic: a panic in any of these would end the test. Instructions follow one another in each way.
func TestNoPanic(t *testing.T) {
	var all []api.Instr
	for op := api.GetVar; op <= api.UnlessComp; op++ {
		one := good(op)
		all = append(all, one)
		switch ops[op].has {
		case "AB":
			one.A, one.B = api.MaxArity-1, api.MaxSlots-1
		case "AC", "AP":
			one.A = api.MaxArity - 1
		case "A":
			one.A = api.MaxArity
		case "L", "LC", "LP":
			one.A = 3
		}
		all = append(all, one)
	}
	entries := []api.Entry{{Name: "p", N: 1, At: 2}}
	for _, x := range all {
		for _, y := range all {
			for _, z := range all {
				l := api.Code{Instrs: []api.Instr{x, y, z, {Op: api.Back}}, Entries: entries}
				if m, err := machine.New(l, v(0)); err == api.OK {
					n := newNaive(l, v(0))
					for range 3 {
						if got, want := showOutcome(m.Next(9)), showOutcome(n.next(9)); got != want {
							t.Fatalf("%s\n%s, not %s", written(l), got, want)
						}
					}
				} else {
					t.Fatal(written(l), err)
				}
			}
		}
	}
	x := chance(8)
	odd := []int{least, -1, 0, 1, 2, 5, 49, 50, 199, 200, 1 << 40, greatest}
	cons := constants()
	checked := map[api.Errno]int{}
	for range 100000 {
		l := x.code()
		for range x.below(3) {
			one := &l.Instrs[x.below(len(l.Instrs))]
			switch x.below(5) {
			case 0:
				one.Op = pick(&x, odd...)
			case 1:
				one.A = pick(&x, odd...)
			case 2:
				one.B = pick(&x, odd...)
			case 3:
				one.Con = pick(&x, cons...)
			case 4:
				l.Query = pick(&x, odd...)
			}
		}
		err := machine.Check(l)
		checked[err]++
		m, again := machine.New(l, v(1))
		if err != again || (m == nil) != (err != api.OK) {
			t.Fatal(err, again)
		}
		m.Next(pick(&x, least, -1, 0, 30, 60))
		m.Next(pick(&x, least, -1, 0, 30, 60))
	}
	if checked[api.OK] < 1000 || checked[api.ErrCode] < 1000 {
		t.Error(checked)
	}
	if o := built(t, code(t, "Back"), v(0)).Next(greatest); o.Kind != api.Answer {
		t.Error(showOutcome(o))
	}
}
