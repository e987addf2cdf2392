package arith_test

import (
	"testing"

	"hornbook/api"
	"hornbook/arith"
	"hornbook/term"
	"hornbook/text"
)

func TestFold(t *testing.T) {
	for _, l := range [][2]string{
		{"X+2*3", "_0 + 6"}, {"2*3+X", "6 + _0"}, {"1+X+2", "1 + _0 + 2"}, {"X+1+2", "_0 + 1 + 2"}, {"X+(1+2)", "_0 + 3"}, {"1+1", "2"}, {"a", "a"}, {"X", "_0"}, {"-5", "-5"}, {"- (5)", "-5"}, {"- X", "- _0"},
		{"foo(1+1,2//0,a)", "foo(2,2 // 0,a)"}, {"(1+1)//(2-2)", "2 // 0"}, {"foo(foo(foo(1+1)))", "foo(foo(foo(2)))"}, {"2 ^ (1 - 2)", "2 ^ -1"}, {"1 << (60 + 3)", "1 << 63"}, {"(2 ^ 62) * 2", "4611686018427387904 * 2"},
		{"1 + 1 = 2", "2 = 2"}, {"[1+1,X|2*2]", "[2,_0|4]"}, {"{1-1}", "{0}"}, {"p :- X is 1 + 2 * 3, Y is X + (4 - 1)", "p :- _0 is 7,_1 is _0 + 3"}, {"min(1,2,3+4)", "min(1,2,7)"}, {"abs(1,-(1))", "abs(1,-1)"}, {"f(min(2,1))+min(2,1)", "f(1) + 1"}, {"a + 1 + 2 * 3", "a + 1 + 6"}, {"'+'", "+"}, {"1 =:= 1", "1 =:= 1"}, {"- - 1", "1"},
	} {
		got, err := arith.Fold(read(t, l[0]))
		s, _ := text.Print(got, text.Default())
		if err != api.OK || s != l[1] {
			t.Errorf("%s is folded to %s, %v, not %s", l[0], s, err, l[1])
		}
	}
}

// naiveFold asks naive at each place anew.
func naiveFold(t api.Term) api.Term {
	if t.Kind != api.Comp {
		return t
	}
	if n, ball := naive(t); isZero(ball) {
		return i(n)
	}
	out := c(t.Name)
	for _, arg := range t.Args {
		out.Args = append(out.Args, naiveFold(arg))
	}
	return out
}

func TestFoldAgainstNaive(t *testing.T) {
	x := chance(42)
	numbers, changed, same0 := 0, 0, 0
	for k := range 20000 {
		u := x.term(1+k%6, 3+k%40)
		got, err := arith.Fold(u)
		if err != api.OK || !same(got, naiveFold(u)) {
			t.Errorf("%s is folded to %s, %v", show(u), show(got), err)
		}
		switch again, _ := arith.Fold(got); {
		case !same(again, got):
			t.Errorf("%s is folded to %s, and then to %s", show(u), show(got), show(again))
		case got.Kind == api.Int:
			numbers++
		case same(got, u):
			same0++
		default:
			changed++
		}
	}
	if numbers < 1000 || changed < 1000 || same0 < 1000 {
		t.Errorf("too few of a kind: %d %d %d", numbers, changed, same0)
	}
}

// TestFoldKeepsNumbers: with any substitution applied, a term and what is folded have one number, or one ball.
func TestFoldKeepsNumbers(t *testing.T) {
	x := chance(43)
	for k := range 10000 {
		u := x.term(1+k%6, 3+k%12)
		folded, err := arith.Fold(u)
		if err != api.OK {
			t.Fatal(show(u), err)
		}
		for range 3 {
			var s []api.Bind
			for n := range int64(3) {
				if x.below(4) > 0 {
					s = append(s, api.Bind{Var: n, To: x.term(2, 8)})
				}
			}
			left, _ := term.Apply(u, s)
			right, _ := term.Apply(folded, s)
			n, ball, err := arith.Eval(left)
			m, ball2, err2 := arith.Eval(right)
			if n != m || err != err2 || !same(ball, ball2) {
				t.Errorf("%s is %d, %s, %v; folded, %s: %d, %s, %v", show(left), n, show(ball), err, show(right), m, show(ball2), err2)
			}
		}
	}
}

func TestFoldRefuses(t *testing.T) {
	for _, x := range nones() {
		if got, err := arith.Fold(x); !isZero(got) || err != api.ErrTerm {
			t.Errorf("%s: %s, %v", show(x), show(got), err)
		}
	}
}
