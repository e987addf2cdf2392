package text_test

import (
	"slices"
	"strconv"
	"strings"
	"testing"

	"hornbook/api"
	"hornbook/text"
)

func v(n int64) api.Term     { return api.Term{Kind: api.Var, N: n} }
func i(n int64) api.Term     { return api.Term{Kind: api.Int, N: n} }
func a(name string) api.Term { return api.Term{Kind: api.Atom, Name: name} }
func c(name string, args ...api.Term) api.Term {
	return api.Term{Kind: api.Comp, Name: name, Args: args}
}
func op(name string, prio, kind int) api.Op { return api.Op{Name: name, Prio: prio, Type: kind} }

func same(x, y api.Term) bool {
	if x.Kind != y.Kind || x.N != y.N || x.Name != y.Name || len(x.Args) != len(y.Args) {
		return false
	}
	for k := range x.Args {
		if !same(x.Args[k], y.Args[k]) {
			return false
		}
	}
	return true
}

func isZero(s api.Sentence) bool {
	return same(s.Term, api.Term{}) && len(s.Names) == 0 && s.At == 0
}

// show writes a term for a message, without operators, also one that is none.
func show(t api.Term) string {
	switch {
	case t.Kind == api.Var && t.Name == "" && len(t.Args) == 0:
		return "_" + strconv.FormatInt(t.N, 10)
	case t.Kind == api.Int && t.Name == "" && len(t.Args) == 0:
		return strconv.FormatInt(t.N, 10)
	case t.Kind == api.Atom && t.N == 0 && len(t.Args) == 0:
		return strconv.Quote(t.Name)
	case t.Kind == api.Comp && t.N == 0:
		list := make([]string, len(t.Args))
		for k, arg := range t.Args {
			list[k] = show(arg)
		}
		return strconv.Quote(t.Name) + "(" + strings.Join(list, ",") + ")"
	}
	return "<kind " + strconv.Itoa(t.Kind) + " N " + strconv.FormatInt(t.N, 10) + " name " + strconv.Quote(t.Name) + " args " + strconv.Itoa(len(t.Args)) + ">"
}

func showSentence(s api.Sentence) string {
	return show(s.Term) + " " + strings.Join(s.Names, ",") + " at " + strconv.Itoa(s.At)
}

func showSentences(l []api.Sentence) string {
	list := make([]string, len(l))
	for k, s := range l {
		list[k] = showSentence(s)
	}
	return strings.Join(list, "; ")
}

func showFault(f api.Fault) string {
	return strconv.Itoa(int(f.Code)) + " at " + strconv.Itoa(f.At)
}

func fault(code api.Errno, at int) api.Fault { return api.Fault{Code: code, At: at} }

// showOps is short where the operators are Default's.
func showOps(ops []api.Op) string {
	if slices.Equal(ops, text.Default()) {
		return "Default"
	}
	s := ""
	for _, o := range ops {
		s += " " + strconv.Quote(o.Name) + ":" + strconv.Itoa(o.Prio) + ":" + strconv.Itoa(o.Type)
	}
	return "[" + strings.TrimSpace(s) + "]"
}

// renamed is a naive way to number variables from 0 on.
func renamed(t api.Term) api.Term {
	var met []int64
	return renamedBehind(t, &met)
}

func renamedBehind(t api.Term, met *[]int64) api.Term {
	if t.Kind == api.Var {
		k := slices.Index(*met, t.N)
		if k < 0 {
			k = len(*met)
			*met = append(*met, t.N)
		}
		return v(int64(k))
	}
	out := t
	out.Args = nil
	for _, arg := range t.Args {
		out.Args = append(out.Args, renamedBehind(arg, met))
	}
	return out
}

// reads says whether a text is read as a term.
func reads(t *testing.T, s string, ops []api.Op, want api.Term) bool {
	t.Helper()
	got, f := text.ReadTerm(s, ops)
	if f != (api.Fault{}) || !same(got.Term, want) {
		t.Errorf("%q with %s is read as %s, %s, not %s", s, showOps(ops), show(got.Term), showFault(f), show(want))
		return false
	}
	return true
}

// stops says whether a text cannot be read, and where.
func stops(t *testing.T, s string, ops []api.Op, want api.Fault) bool {
	t.Helper()
	got, f := text.ReadTerm(s, ops)
	if f != want || !isZero(got) {
		t.Errorf("%q with %s is read as %s, %s, not %s", s, showOps(ops), showSentence(got), showFault(f), showFault(want))
		return false
	}
	return true
}

func prints(t *testing.T, x api.Term, ops []api.Op, want string) bool {
	t.Helper()
	got, err := text.Print(x, ops)
	if err != api.OK || got != want {
		t.Errorf("%s with %s is printed %q, %v, not %q", show(x), showOps(ops), got, err, want)
		return false
	}
	return true
}

// nones: what is no term, in each way that P3 names.
func nones() []api.Term {
	long := strings.Repeat("x", api.MaxName+1)
	one := []api.Term{i(1)}
	many := make([]api.Term, api.MaxArity+1)
	for k := range many {
		many[k] = i(1)
	}
	list := []api.Term{
		{}, {Kind: -1}, {Kind: 5}, {Kind: 5, Name: "f", Args: one},
		v(-1), v(-1 << 63), v(api.MaxVar + 1), v(1<<63 - 1),
		{Kind: api.Var, Name: "X"}, {Kind: api.Var, Args: one},
		{Kind: api.Int, Name: "1"}, {Kind: api.Int, N: 1, Args: one},
		{Kind: api.Atom, Name: "a", N: 1}, {Kind: api.Atom, Name: "a", Args: one}, a(long),
		{Kind: api.Comp, Name: "f"}, {Kind: api.Comp, Name: "f", Args: []api.Term{}},
		{Kind: api.Comp, Name: "f", N: 1, Args: one}, c(long, i(1)), c("f", many...),
	}
	for _, x := range list[:len(list):len(list)] {
		list = append(list, c("f", x), c("f", i(1), c("g", x, v(0))), c("-", i(1), x), c("-", x), c("{}", x), c(".", a("a"), x), c(",", x, x))
	}
	return list
}

// badOps: what is no list of operators, in each way that P9 names.
func badOps() [][]api.Op {
	long := strings.Repeat("x", api.MaxName+1)
	list := [][]api.Op{
		{op(",", 1000, api.XFY)}, {op("|", 1100, api.XFY)}, {op("[]", 1, api.FY)}, {op("{}", 1200, api.FX)}, {op(",", 1, api.FY)}, {op(long, 5, api.XFX)},
		{op("a", 0, api.XFX)}, {op("a", -1, api.FY)}, {op("a", 1201, api.YFX)}, {op("a", 1<<62, api.FX)}, {op("a", -1<<63, api.FX)},
		{op("a", 1, 0)}, {op("a", 1, 6)}, {op("a", 1, -1)}, {op("a", 1, 1<<62)}, {{}},
		{op("a", 1, api.XFX), op("a", 1, api.XFX)}, {op("a", 1, api.XFY), op("b", 1, api.XFX), op("a", 2, api.YFX)}, {op("a", 1, api.XFX), op("a", 1, api.YFX)},
		{op("a", 1, api.FY), op("a", 1, api.FX)}, {op("a", 1, api.FY), op("a", 1, api.XFX), op("a", 2, api.FY)}, {op("", 1, api.FY), op("", 1, api.FY)},
		many(api.MaxOps + 1),
	}
	for _, l := range list[:len(list):len(list)] {
		list = append(list, append([]api.Op{op("first", 7, api.FY)}, l...), append(l[:len(l):len(l)], op("last", 7, api.FY)))
	}
	return list
}

// many operators, all of names of their own.
func many(n int) []api.Op {
	list := make([]api.Op, n)
	for k := range list {
		list[k] = op("o"+strconv.Itoa(k), 1+k%1200, 1+k%5)
	}
	return list
}

// chance is a source of numbers that are the same ones each time.
type chance uint64

func (x *chance) below(n int) int {
	*x = *x*6364136223846793005 + 1442695040888963407
	return int(uint64(*x) >> 33 % uint64(n))
}

func pick[T any](x *chance, list []T) T {
	return list[x.below(len(list))]
}

// names, of which all but the last ones may be an operator's.
func names() []string {
	return []string{
		"-", "+", "*", "=", "\\", "a", "is", ".", "!", ";", "b", "..", "", "a b", "A", "_", "0", "1", "(", ")", "[", "]", "{", "}", "/*", "/**/", "%", "'", "\\'", "''",
		"+/*", ".=", "\n", "\x00\x7f\xff\t", "é", "aB_0", "?-", "#", "\"", "~", strings.Repeat("n", api.MaxName), strings.Repeat("\x80", api.MaxName), strings.Repeat("'", api.MaxName),
		",", "|", "[]", "{}",
	}
}

func (x *chance) name() string {
	list := names()
	if x.below(3) > 0 {
		list = list[:9]
	} else if x.below(3) == 0 {
		list = list[len(list)-4:]
	}
	return pick(x, list)
}

// ops: some operators, with priorities that often are one and the same, or lie side by side, or at the edges.
func (x *chance) ops() []api.Op {
	prios := [][]int{{1, 2, 3}, {500}, {999, 1000, 1001}, {1199, 1200}, {1, 2, 998, 999, 1000, 1001, 1199, 1200}}[x.below(5)]
	var list []api.Op
	for _, name := range names()[:len(names())-4] {
		if x.below(2) == 0 {
			list = append(list, op(name, pick(x, prios), 1+x.below(3)))
		}
		if x.below(2) == 0 {
			list = append(list, op(name, pick(x, prios), 4+x.below(2)))
		}
	}
	for k := range list {
		m := k + x.below(len(list)-k)
		list[k], list[m] = list[m], list[k]
	}
	return list[:x.below(len(list)+1)]
}

func (x *chance) term(deep int) api.Term {
	switch k := x.below(10); {
	case k < 1:
		return v(int64(x.below(4)) * (api.MaxVar / 3))
	case k < 3:
		return i(pick(x, []int64{0, 1, -1, 7, -42, 1<<63 - 1, -1 << 63, -1<<63 + 1}))
	case k < 5 || deep == 0:
		return a(x.name())
	case k < 7:
		return c(x.name(), x.term(deep-1))
	case k < 9:
		return c(x.name(), x.term(deep-1), x.term(deep-1))
	}
	return c(x.name(), x.term(deep-1), x.term(deep-1), x.term(deep-1))
}
