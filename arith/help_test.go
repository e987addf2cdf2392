package arith_test

import (
	"math/big"
	"strconv"
	"strings"
	"testing"

	"hornbook/api"
	"hornbook/arith"
	"hornbook/text"
)

const (
	least    = -1 << 63
	greatest = 1<<63 - 1
)

func v(n int64) api.Term     { return api.Term{Kind: api.Var, N: n} }
func i(n int64) api.Term     { return api.Term{Kind: api.Int, N: n} }
func a(name string) api.Term { return api.Term{Kind: api.Atom, Name: name} }
func c(name string, args ...api.Term) api.Term {
	return api.Term{Kind: api.Comp, Name: name, Args: args}
}

// none is the ball of a name with so many Args that is not in the table.
func none(name string, args int64) api.Term {
	return c("not_evaluable", c("/", a(name), i(args)))
}

func same(x, y api.Term) bool {
	if x.Kind != y.Kind || x.N != y.N || x.Name != y.Name || len(x.Args) != len(y.Args) {
		return false
	}
	for k := range x.Args {
		if !same(x.Args[k], y.Args[k]) {
			return false
		}
	}
	return true
}

func isZero(t api.Term) bool { return same(t, api.Term{}) }

// show writes a term for a message, without operators, also one that is none.
func show(t api.Term) string {
	switch {
	case t.Kind == api.Var && t.Name == "" && len(t.Args) == 0:
		return "_" + strconv.FormatInt(t.N, 10)
	case t.Kind == api.Int && t.Name == "" && len(t.Args) == 0:
		return strconv.FormatInt(t.N, 10)
	case t.Kind == api.Atom && t.N == 0 && len(t.Args) == 0:
		return strconv.Quote(t.Name)
	case t.Kind == api.Comp && t.N == 0:
		list := make([]string, len(t.Args))
		for k, arg := range t.Args {
			list[k] = show(arg)
		}
		return strconv.Quote(t.Name) + "(" + strings.Join(list, ",") + ")"
	}
	return "<kind " + strconv.Itoa(t.Kind) + " N " + strconv.FormatInt(t.N, 10) + " name " + strconv.Quote(t.Name) + " args " + strconv.Itoa(len(t.Args)) + ">"
}

// read gives the term of a text.
func read(t *testing.T, s string) api.Term {
	t.Helper()
	got, f := text.ReadTerm(s, text.Default())
	if f.Code != api.OK {
		t.Fatalf("%q: error %d at %d", s, f.Code, f.At)
	}
	return got.Term
}

// comes says whether a term has a number.
func comes(t *testing.T, x api.Term, want int64) bool {
	t.Helper()
	n, ball, err := arith.Eval(x)
	if n != want || err != api.OK || !isZero(ball) {
		t.Errorf("%s is %d, %s, %v, not %d", show(x), n, show(ball), err, want)
		return false
	}
	return true
}

// throws says whether a term has no number, but a ball.
func throws(t *testing.T, x, want api.Term) bool {
	t.Helper()
	n, ball, err := arith.Eval(x)
	if n != 0 || err != api.ErrKind || !same(ball, want) {
		t.Errorf("%s is %d, %s, %v, not the ball %s", show(x), n, show(ball), err, show(want))
		return false
	}
	return true
}

func unaryNames() []string { return []string{"-", "+", "abs", "sign", "\\"} }

func binaryNames() []string {
	return []string{"+", "-", "*", "//", "rem", "div", "mod", "min", "max", "gcd", "**", "^", "<<", ">>", "/\\", "\\/", "xor"}
}

func relationNames() []string { return []string{"=:=", "=\\=", "<", ">", "=<", ">="} }

// otherNames are in no table, though some are much like those that are.
func otherNames() []string {
	return []string{"", "a", "foo", "/", ".", "[]", "{}", ",", "is", "=", "==", "<=", "=>", "!=", "\\=", "plus", "minus", "pow", "not", "and", "or", "Abs", "ABS", "abs ", " abs", "mod\n", "-\x00", "--", "+ ", "***", "msb", "cot", "e", "pi", "1", "-1", "unbound", "not_evaluable", strings.Repeat("x", api.MaxName)}
}

// numbers: edges of what 64 bits hold, of shifts, of products, and some between.
func numbers() []int64 {
	list := []int64{0}
	for _, n := range []int64{1, 2, 3, 4, 5, 7, 10, 12, 18, 31, 32, 33, 61, 62, 63, 64, 65, 127, 128, 1000, 1 << 31, 1<<31 - 1, 1 << 32, 1<<32 + 1, 3037000499, 3037000500, 6074001000, 1 << 61, 1 << 62, 1<<62 - 1, 1<<62 + 1, greatest / 3, greatest/3 + 1, greatest - 1, greatest} {
		list = append(list, n, -n)
	}
	return append(list, least, least/3, least/3-1)
}

// table says in exact numbers, of any size, what a name does with one or two, or the name of its ball.
func table(name string, of ...*big.Int) (*big.Int, string) {
	n, ball := unbounded(name, of)
	if ball == "" && !n.IsInt64() {
		return nil, "overflow"
	}
	return n, ball
}

func unbounded(name string, of []*big.Int) (*big.Int, string) {
	x, n := of[0], new(big.Int)
	if len(of) == 1 {
		return map[string]func() *big.Int{
			"-": func() *big.Int { return n.Neg(x) }, "+": func() *big.Int { return x }, "abs": func() *big.Int { return n.Abs(x) },
			"sign": func() *big.Int { return n.SetInt64(int64(x.Sign())) }, "\\": func() *big.Int { return n.Not(x) },
		}[name](), ""
	}
	y := of[1]
	switch name {
	case "//", "rem", "div", "mod":
		if y.Sign() == 0 {
			return nil, "zero_divide"
		}
	case "**", "^", "<<", ">>":
		if y.Sign() < 0 {
			return nil, "negative"
		}
	}
	return map[string]func() *big.Int{
		"+": func() *big.Int { return n.Add(x, y) }, "-": func() *big.Int { return n.Sub(x, y) }, "*": func() *big.Int { return n.Mul(x, y) },
		"//": func() *big.Int { return n.Quo(x, y) }, "rem": func() *big.Int { return n.Rem(x, y) },
		"div": func() *big.Int { return floor(x, y) }, "mod": func() *big.Int { return n.Sub(x, n.Mul(y, floor(x, y))) },
		"min": func() *big.Int { return lesser(x, y) }, "max": func() *big.Int { return n.Sub(n.Add(x, y), lesser(x, y)) },
		"gcd": func() *big.Int { return n.GCD(nil, nil, new(big.Int).Abs(x), new(big.Int).Abs(y)) },
		"**":  func() *big.Int { return power(x, y) }, "^": func() *big.Int { return power(x, y) },
		"<<": func() *big.Int { return n.Mul(x, power(big.NewInt(2), y)) }, ">>": func() *big.Int { return floor(x, power(big.NewInt(2), y)) },
		"/\\": func() *big.Int { return n.And(x, y) }, "\\/": func() *big.Int { return n.Or(x, y) }, "xor": func() *big.Int { return n.Xor(x, y) },
	}[name](), ""
}

// floor: big's Div rounds so that what is left is not below 0, which is another thing where y is.
func floor(x, y *big.Int) *big.Int {
	n, left := new(big.Int).DivMod(x, y, new(big.Int))
	if y.Sign() < 0 && left.Sign() != 0 {
		n.Sub(n, big.NewInt(1))
	}
	return n
}

func lesser(x, y *big.Int) *big.Int {
	if x.Cmp(y) < 0 {
		return x
	}
	return y
}

// power is cut where it has so many bits that nothing of 64 bits can be told from it.
func power(x, y *big.Int) *big.Int {
	most := big.NewInt(200)
	if y.Cmp(most) > 0 {
		y = most.Add(most, new(big.Int).And(y, big.NewInt(1)))
	}
	return new(big.Int).Exp(x, y, nil)
}

// naive says with table what Eval must answer: a number, or the ball that is no zero term.
func naive(t api.Term) (int64, api.Term) {
	switch t.Kind {
	case api.Int:
		return t.N, api.Term{}
	case api.Var:
		return 0, a("unbound")
	}
	if !isKnown(t.Name, len(t.Args)) {
		return 0, none(t.Name, int64(len(t.Args)))
	}
	var of []*big.Int
	for _, arg := range t.Args {
		n, ball := naive(arg)
		if !isZero(ball) {
			return 0, ball
		}
		of = append(of, big.NewInt(n))
	}
	n, ball := table(t.Name, of...)
	if ball != "" {
		return 0, a(ball)
	}
	return n.Int64(), api.Term{}
}

func isKnown(name string, args int) bool {
	list := map[int][]string{1: unaryNames(), 2: binaryNames()}[args]
	for _, x := range list {
		if x == name {
			return true
		}
	}
	return false
}

// nones: what is no term, in each way that P3 names.
func nones() []api.Term {
	long := strings.Repeat("x", api.MaxName+1)
	one := []api.Term{i(1)}
	many := make([]api.Term, api.MaxArity+1)
	for k := range many {
		many[k] = i(1)
	}
	list := []api.Term{
		{}, {Kind: -1}, {Kind: 5}, {Kind: 5, Name: "f", Args: one},
		v(-1), v(least), v(api.MaxVar + 1), v(greatest),
		{Kind: api.Var, Name: "X"}, {Kind: api.Var, Args: one},
		{Kind: api.Int, Name: "1"}, {Kind: api.Int, N: 1, Args: one},
		{Kind: api.Atom, Name: "a", N: 1}, {Kind: api.Atom, Name: "a", Args: one}, a(long),
		{Kind: api.Comp, Name: "-"}, {Kind: api.Comp, Name: "+", Args: []api.Term{}},
		{Kind: api.Comp, Name: "-", N: 1, Args: one}, c(long, i(1)), c("+", many...),
	}
	for _, x := range list[:len(list):len(list)] {
		list = append(list, c("-", x), c("+", x, i(1)), c("*", i(1), x), c("+", v(0), x), c("foo", a("a"), x), c("//", c("//", i(1), i(0)), c("-", x)))
	}
	return list
}

// chance is a source of numbers that are the same ones each time.
type chance uint64

func (x *chance) below(n int) int {
	*x = *x*6364136223846793005 + 1442695040888963407
	return int(uint64(*x) >> 33 % uint64(n))
}

func pick[T any](x *chance, list []T) T {
	return list[x.below(len(list))]
}

// number is often a small one, so that few sums run over.
func (x *chance) number() int64 {
	if x.below(8) == 0 {
		return pick(x, numbers())
	}
	return int64(x.below(15)) - 4
}

// term is mostly one of the names in the table; others says how seldom something has no number.
func (x *chance) term(deep, others int) api.Term {
	if x.below(others) == 0 {
		switch x.below(4) {
		case 0:
			return v(int64(x.below(3)))
		case 1:
			return a(pick(x, otherNames()))
		case 2:
			return c(pick(x, append(otherNames(), unaryNames()...)), x.term(deep/2, others), x.term(deep/2, others), x.term(deep/2, others))
		}
		return c(pick(x, append(otherNames(), binaryNames()...)), x.term(deep/2, others))
	}
	switch k := x.below(6); {
	case k == 0 || deep == 0:
		return i(x.number())
	case k == 1:
		return c(pick(x, unaryNames()), x.term(deep-1, others))
	}
	return c(pick(x, binaryNames()), x.term(deep-1, others), x.term(deep-1, others))
}
