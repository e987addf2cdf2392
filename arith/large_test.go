package arith_test

import (
	"testing"

	"hornbook/api"
	"hornbook/arith"
)

const deepest = 1 << 16

// nested is core with around about it, as deep as a term may be; it stays below quadratic work only where each part is looked at once.
func nested(core api.Term, around func(t api.Term) api.Term) api.Term {
	t := core
	for range deepest - 2 {
		t = around(t)
	}
	return t
}

func TestDeep(t *testing.T) {
	plusLeft := func(x api.Term) api.Term { return c("+", x, i(1)) }
	plusRight := func(x api.Term) api.Term { return c("+", i(1), x) }
	minus := func(x api.Term) api.Term { return c("-", x) }
	other := func(x api.Term) api.Term { return c("f", x) }
	for _, l := range []struct {
		around func(api.Term) api.Term
		want   int64
	}{{plusLeft, deepest - 2}, {plusRight, deepest - 2}, {minus, 0}} {
		u := nested(i(0), l.around)
		comes(t, u, l.want)
		if got, err := arith.Fold(u); err != api.OK || !same(got, i(l.want)) {
			t.Errorf("folded to %.80s, %v", show(got), err)
		}
		holds(t, "=:=", u, i(l.want), true)
		holds(t, "<", u, u, false)
	}
	for _, around := range []func(api.Term) api.Term{plusLeft, plusRight, minus, other} {
		for _, core := range []api.Term{v(7), a("a"), c("//", i(1), i(0))} {
			u := nested(core, around)
			want := core
			n, ball, err := arith.Eval(u)
			_, wantBall, _ := arith.Eval(want)
			if u.Name == "f" {
				wantBall = none("f", 1)
			}
			if n != 0 || err != api.ErrKind || !same(ball, wantBall) {
				t.Errorf("%s at the bottom: %d, %.80s, %v", show(core), n, show(ball), err)
			}
			if got, err := arith.Fold(u); err != api.OK || !same(got, u) {
				t.Errorf("%s at the bottom: folded to something else, %v", show(core), err)
			}
		}
	}
	u := nested(c("+", i(2), i(3)), other)
	if got, err := arith.Fold(u); err != api.OK || !same(got, nested(i(5), other)) {
		t.Error("folded at the bottom to something else", err)
	}
}

// balanced has 2^deep leaves.
func balanced(deep int, leaf api.Term) api.Term {
	if deep == 0 {
		return leaf
	}
	return c("+", balanced(deep-1, leaf), balanced(deep-1, leaf))
}

func TestWide(t *testing.T) {
	const deep = 18
	u := balanced(deep, i(3))
	comes(t, u, 3<<deep)
	if got, err := arith.Fold(u); err != api.OK || !same(got, i(3<<deep)) {
		t.Errorf("folded to %.80s, %v", show(got), err)
	}
	u = c("+", u, v(0))
	throws(t, c("+", u, a("a")), a("unbound"))
	if got, err := arith.Fold(u); err != api.OK || !same(got, c("+", i(3<<deep), v(0))) {
		t.Errorf("folded to %.80s, %v", show(got), err)
	}
	u = balanced(deep, v(1))
	if got, err := arith.Fold(u); err != api.OK || !same(got, u) {
		t.Errorf("folded to something else, %v", err)
	}
}
