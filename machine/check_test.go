package machine_test

import (
	"slices"
	"strconv"
	"strings"
	"testing"

	"hornbook/api"
	"hornbook/base"
	"hornbook/machine"
)

// allowed are the goals of doc/06-solve.md's second table, but those that the document leaves out; and throw.
const allowed = "=/2 \\=/2 ==/2 \\==/2 @</2 @>/2 @=</2 @>=/2 compare/3 var/1 nonvar/1 atom/1 integer/1 atomic/1 compound/1 callable/1 ground/1 functor/3 arg/3 =../2 copy_term/2 " +
	"is/2 =:=/2 =\\=/2 </2 >/2 =</2 >=/2 atom_length/2 atom_chars/2 length/2 sort/2 print/1 nl/0 throw/1"

func isAllowed(name string, n int) bool {
	return slices.Contains(strings.Fields(allowed), name+"/"+strconv.Itoa(n))
}

func TestAllowed(t *testing.T) {
	others := " true/0 fail/0 !/0 ,/2 ;/2 ->/2 \\+/1 call/1 call/8 catch/3 findall/3 between/3 assertz/1 asserta/1 retract/1 :-/1 :-/2 -->/2 p/0 p/1 Print/1 nl_/0 x/-1"
	for _, s := range strings.Fields(allowed + others) {
		name, _, _ := predOf(s)
		for n := -2; n < 60; n++ {
			if got := machine.Allowed(name, n); got != isAllowed(name, n) {
				t.Errorf("%s with %d Args: %v", name, n, got)
			}
		}
	}
	for _, name := range []string{"", strings.Repeat("x", 1000), "\x00"} {
		for _, n := range []int{least, -1, 0, 1, 2, 3, greatest} {
			if machine.Allowed(name, n) {
				t.Errorf("%q with %d Args", name, n)
			}
		}
	}
}

// table is the document's, in its order: what A, B and Con are.
const table = `GetVar arg slot -
GetVal arg slot -
GetConst arg - constant
GetComp arg - compound
SubVar slot - -
SubVal slot - -
SubConst - - constant
SubComp - - compound
SubVoid count - -
PutVar arg slot -
PutVal arg slot -
PutConst arg - constant
PutComp arg - compound
Call - - predicate
Last - - predicate
Back - - -
Fail - - -
Try place - -
Jump place - -
Level slot - -
Mark slot - -
Cut slot - -
Builtin - - builtin
UnlessConst place - constant
UnlessComp place - compound`

// isNumber and isCon say what the document does of a field, in code of so many instructions.
func isNumber(what string, n, places int) bool {
	bounds := map[string][2]int{"arg": {0, 49}, "slot": {0, 199}, "place": {0, places - 1}, "count": {1, 50}, "-": {0, 0}}
	b, is := bounds[what]
	return is && b[0] <= n && n <= b[1]
}

func isCon(what string, x api.Constant) bool {
	short := len(x.Name) <= 100
	switch what {
	case "constant":
		return x.Kind == api.Atom && short && x.N == 0 || x.Kind == api.Int && x.Name == ""
	case "compound":
		return x.Kind == api.Comp && short && 1 <= x.N && x.N <= 50
	case "predicate":
		return x.Kind == api.Comp && short && 0 <= x.N && x.N <= 50
	case "builtin":
		return x.Kind == api.Comp && slices.Contains(strings.Fields(allowed), x.Name+"/"+strconv.FormatInt(x.N, 10))
	}
	return x == api.Constant{}
}

// constants are of each kind, right and wrong.
func constants() []api.Constant {
	var l []api.Constant
	for _, kind := range []int{-1, 0, api.Var, api.Int, api.Atom, api.Comp, 5, greatest} {
		for _, name := range []string{"", "a", "nl", "print", "call", "=", "between", "p", strings.Repeat("x", 100), strings.Repeat("x", 101)} {
			for _, n := range []int64{least, -1, 0, 1, 2, 3, 49, 50, 51, 1 << 32, 1<<32 + 1, greatest} {
				l = append(l, api.Constant{Kind: kind, Name: name, N: n})
			}
		}
	}
	return l
}

// TestCheckInstrs holds each instruction with numbers and constants of many kinds against the table.
func TestCheckInstrs(t *testing.T) {
	numbers := []int{least, -1, 0, 1, 2, 3, 48, 49, 50, 51, 198, 199, 200, 201, 1 << 32, greatest}
	right, wrong := map[int]int{}, map[int]int{}
	for _, line := range strings.Split(table, "\n") {
		f := strings.Fields(line)
		op := opOf(f[0])
		for _, x := range constants() {
			for _, n := range numbers {
				for _, k := range numbers {
					if n > 3 && k > 3 && n != k {
						continue
					}
					one := api.Instr{Op: op, A: n, B: k, Con: x}
					is := isNumber(f[1], n, 3) && isNumber(f[2], k, 3) && isCon(f[3], x)
					want := api.ErrCode
					if is {
						want = api.OK
						right[op]++
					} else {
						wrong[op]++
					}
					if got := machine.Check(api.Code{Instrs: []api.Instr{{Op: api.Fail}, one, {Op: api.Back}}}); got != want {
						t.Fatalf("%+v: %v", one, got)
					}
				}
			}
		}
		if right[op] == 0 || wrong[op] == 0 || op == 0 {
			t.Error(f[0], right[op], wrong[op])
		}
	}
	if len(right) != 25 {
		t.Error(len(right))
	}
	for _, op := range []int{least, -1, 0, 26, 27, 1 << 32, greatest} {
		for _, at := range []int{0, 1, 2} {
			l := api.Code{Instrs: []api.Instr{{Op: api.Fail}, {Op: api.Fail}, {Op: api.Fail}}}
			l.Instrs[at].Op = op
			if got := machine.Check(l); got != api.ErrCode {
				t.Error(op, got)
			}
		}
	}
}

// good is an instruction that is right in any code.
func good(op int) api.Instr {
	x := api.Instr{Op: op}
	f := strings.Fields(strings.Split(table, "\n")[op-1])
	if f[1] == "count" {
		x.A = 1
	}
	switch f[3] {
	case "constant":
		x.Con = atom("a")
	case "compound", "predicate":
		x.Con = pred("p", 1)
	case "builtin":
		x.Con = pred("nl", 0)
	}
	return x
}

// TestCheckLast: behind the last instruction none may be needed.
func TestCheckLast(t *testing.T) {
	for op := api.GetVar; op <= api.UnlessComp; op++ {
		want := api.ErrCode
		if op == api.Last || op == api.Back || op == api.Fail || op == api.Jump {
			want = api.OK
		}
		if got := machine.Check(api.Code{Instrs: []api.Instr{good(op)}}); got != want {
			t.Error(ops[op].name, got)
		}
		if got := machine.Check(api.Code{Instrs: []api.Instr{{Op: api.Back}, good(op)}}); got != want {
			t.Error(ops[op].name, got)
		}
		if got := machine.Check(api.Code{Instrs: []api.Instr{good(op), {Op: api.Back}}}); got != api.OK {
			t.Error(ops[op].name, got)
		}
	}
	for _, l := range []api.Code{{}, {Instrs: []api.Instr{}}, {Query: -1}, {Entries: []api.Entry{{Name: "p"}}}} {
		if got := machine.Check(l); got != api.ErrCode {
			t.Errorf("without instructions: %v", got)
		}
	}
}

func TestCheckPlaces(t *testing.T) {
	l := []api.Instr{{Op: api.Back}, {Op: api.Fail}, {Op: api.Back}}
	for n, want := range map[int]api.Errno{least: api.ErrCode, -1: api.ErrCode, 0: api.OK, 1: api.OK, 2: api.OK, 3: api.ErrCode, 4: api.ErrCode, 1 << 32: api.ErrCode, greatest: api.ErrCode} {
		if got := machine.Check(api.Code{Instrs: l, Query: n}); got != want {
			t.Error("query", n, got)
		}
		if got := machine.Check(api.Code{Instrs: l, Entries: []api.Entry{{Name: "p", At: 1}, {Name: "q", At: n}}}); got != want {
			t.Error("entry", n, got)
		}
		if got := machine.Check(api.Code{Instrs: []api.Instr{{Op: api.Try, A: n}, {Op: api.Fail}, {Op: api.Back}}}); got != want {
			t.Error("place", n, got)
		}
	}
}

func TestCheckEntries(t *testing.T) {
	for _, k := range []struct {
		want api.Errno
		l    []api.Entry
	}{
		{api.OK, nil},
		{api.OK, []api.Entry{}},
		{api.OK, []api.Entry{{Name: "p"}, {Name: "p", N: 1}, {Name: "q", N: 1}, {Name: "p", N: 50}}},
		{api.OK, []api.Entry{{}, {N: 50}, {Name: strings.Repeat("x", 100)}}},
		{api.OK, []api.Entry{{Name: "true", N: 1}, {Name: "call"}, {Name: "call", N: 9}, {Name: "print", N: 2}, {Name: "-->", N: 1}}},
		{api.ErrCode, []api.Entry{{Name: "p"}, {Name: "p"}}},
		{api.ErrCode, []api.Entry{{Name: "p", N: 1}, {Name: "q"}, {Name: "p", N: 1, At: 1}}},
		{api.ErrCode, []api.Entry{{Name: "p", N: -1}}},
		{api.ErrCode, []api.Entry{{Name: "p", N: 51}}},
		{api.ErrCode, []api.Entry{{Name: "p", N: least}}},
		{api.ErrCode, []api.Entry{{Name: "p", N: greatest}}},
		{api.ErrCode, []api.Entry{{Name: strings.Repeat("x", 101)}}},
		{api.ErrCode, []api.Entry{{Name: "q"}, {Name: "p", N: -1}}},
	} {
		if got := machine.Check(api.Code{Instrs: []api.Instr{{Op: api.Back}, {Op: api.Back}}, Entries: k.l}); got != k.want {
			t.Errorf("%+v: %v", k.l, got)
		}
	}
	for _, s := range strings.Fields(allowed + " true/0 fail/0 !/0 ,/2 ;/2 ->/2 \\+/1 call/1 call/2 call/7 call/8 catch/3 findall/3 between/3 assertz/1 asserta/1 retract/1 :-/1 :-/2 -->/2") {
		name, _, _ := predOf(s)
		for n := range 12 {
			want := api.OK
			if base.Reserved(name, n) {
				want = api.ErrCode
			}
			if got := machine.Check(api.Code{Instrs: []api.Instr{{Op: api.Back}}, Entries: []api.Entry{{Name: name, N: n}}}); got != want {
				t.Error(name, n, got)
			}
			// Whether a predicate that is called has an entry, or may have one, is not asked.
			if got := machine.Check(api.Code{Instrs: []api.Instr{{Op: api.Call, Con: pred(name, int64(n))}, {Op: api.Last, Con: pred(name, int64(n))}}}); got != api.OK {
				t.Error(name, n, got)
			}
		}
	}
}

func TestCheckLarge(t *testing.T) {
	l := make([]api.Instr, api.MaxCode+1)
	for k := range l {
		l[k] = api.Instr{Op: api.Back}
	}
	most := l[:api.MaxCode]
	for _, k := range []struct {
		name string
		code api.Code
		want api.Errno
	}{
		{"as many as may be", api.Code{Instrs: most, Query: api.MaxCode - 1, Entries: []api.Entry{{Name: "p", At: api.MaxCode - 1}}}, api.OK},
		{"as many, and one is wrong", api.Code{Instrs: append([]api.Instr{{}}, most[1:]...)}, api.ErrCode},
		{"as many, and the query is none of them", api.Code{Instrs: most, Query: api.MaxCode}, api.ErrCode},
		{"more", api.Code{Instrs: l}, api.ErrLarge},
		{"more, and one is wrong", api.Code{Instrs: append([]api.Instr{{}}, l[1:]...)}, api.ErrLarge},
		{"more, and the last is wrong", api.Code{Instrs: append(slices.Clone(most), api.Instr{Op: api.Mark})}, api.ErrLarge},
		{"more, and all else is wrong", api.Code{Instrs: l, Query: -1, Entries: []api.Entry{{Name: "true"}, {Name: "p", N: -1}}}, api.ErrLarge},
	} {
		if got := machine.Check(k.code); got != k.want {
			t.Error(k.name, got)
		}
		if m, err := machine.New(k.code, a("a")); err != k.want || (m == nil) != (err != api.OK) {
			t.Error(k.name, err)
		}
	}
	// There may be far more entries than instructions.
	var entries []api.Entry
	for k := range 300000 {
		entries = append(entries, api.Entry{Name: "p" + strconv.Itoa(k/50), N: k % 50})
	}
	if got := machine.Check(api.Code{Instrs: most, Entries: entries}); got != api.OK {
		t.Error("many entries", got)
	}
	if got := machine.Check(api.Code{Instrs: most, Entries: append(entries, entries[7])}); got != api.ErrCode {
		t.Error("one of many entries twice", got)
	}
}

func TestNewErrors(t *testing.T) {
	many := func(n int) api.Term {
		l := []api.Term{}
		for k := range n {
			l = append(l, c("f", v(int64(k)), v(0)))
		}
		return c("q", c("g", l[:n/2]...), c("h", l[n/2:]...))
	}
	back := api.Code{Instrs: []api.Instr{{Op: api.Back}}}
	large := api.Code{Instrs: make([]api.Instr, api.MaxCode+1)}
	for k, x := range []struct {
		code  api.Code
		query api.Term
		want  api.Errno
	}{
		{back, a("a"), api.OK}, {back, i(3), api.OK}, {back, v(5), api.OK}, {back, v(api.MaxVar), api.OK}, {back, c(",", i(1), v(2)), api.OK}, {back, many(50), api.OK},
		{back, many(51), api.ErrLarge}, {back, many(90), api.ErrLarge},
		{api.Code{}, a("a"), api.ErrCode}, {api.Code{}, many(51), api.ErrCode}, {large, many(51), api.ErrLarge}, {large, a("a"), api.ErrLarge},
		{back, api.Term{}, api.ErrTerm}, {back, c("f", v(-1)), api.ErrTerm}, {api.Code{}, c("f", v(-1)), api.ErrTerm}, {large, c("f", i(1), c("f")), api.ErrTerm},
	} {
		m, err := machine.New(x.code, x.query)
		if err != x.want || (m == nil) != (err != api.OK) {
			t.Error(k, err)
		}
	}
	for _, x := range nones() {
		for _, l := range []api.Code{back, {}, large} {
			if m, err := machine.New(l, x); err != api.ErrTerm || m != nil {
				t.Error(show(x), err)
			}
		}
	}
}
