package term_test

import (
	"testing"

	"hornbook/api"
	"hornbook/term"
)

func TestGeneral(t *testing.T) {
	for _, x := range []struct{ a, b, want api.Term }{
		{a("a"), a("a"), a("a")}, {i(5), i(5), i(5)}, {a("a"), a("b"), v(0)}, {i(1), i(2), v(0)}, {i(1), a("1"), v(0)},
		{v(7), v(7), v(0)}, {v(7), v(8), v(0)}, {v(7), a("a"), v(0)}, {a("a"), v(7), v(0)},
		{c("f", a("a")), c("f", a("a")), c("f", a("a"))}, {c("f", a("a")), c("g", a("a")), v(0)}, {c("f", a("a")), c("f", a("a"), a("a")), v(0)}, {a("f"), c("f", a("a")), v(0)},
		{c("f", a("a"), a("b"), a("a")), c("f", a("c"), a("b"), a("c")), c("f", v(0), a("b"), v(0))},
		{c("f", a("a"), a("b")), c("f", a("b"), a("a")), c("f", v(0), v(1))},
		{c("f", v(3), v(3), v(4)), c("f", v(3), v(3), v(4)), c("f", v(0), v(0), v(1))},
		{c("f", v(1), v(1)), c("f", v(2), v(3)), c("f", v(0), v(1))},
		{c("f", c("g", i(1), i(2)), i(1)), c("f", c("g", i(3), i(2)), i(3)), c("f", c("g", v(0), i(2)), v(0))},
		{c("f", c("g", i(1)), c("g", i(1)), c("h", i(1))), c("f", c("h", i(2)), c("h", i(2)), c("h", i(2))), c("f", v(0), v(0), c("h", v(1)))},
		{c("f", i(0), c("g", i(1)), i(2), i(1)), c("f", i(9), c("g", i(8)), i(7), i(8)), c("f", v(0), c("g", v(1)), v(2), v(1))},
	} {
		if got, err := term.General(x.a, x.b); err != api.OK || !same(got, x.want) {
			t.Errorf("%s, %s: %s, %v", show(x.a), show(x.b), show(got), err)
		}
	}
}

// TestGeneralTellsPairsApart: no two of these pairs are the same, however much alike they are when written down.
func TestGeneralTellsPairsApart(t *testing.T) {
	pairs := [][2]api.Term{
		{a("ab"), a("c")}, {a("a"), a("bc")}, {a(""), a("abc")}, {a("abc"), a("")},
		{a("1"), a("2")}, {i(1), a("2")}, {a("1"), i(2)}, {i(1), i(2)}, {v(1), i(2)}, {i(1), v(2)}, {v(1), v(2)}, {i(-1), i(2)}, {i(12), i(0)},
		{c("g", a("a"), a("b")), a("c")}, {c("g", a("a,b")), a("c")}, {c("g", a("a b")), a("c")}, {c("g(a", a("b")), a("c")}, {c("g", c("a", a("b"))), a("c")},
		{c("g", c("h", a("a")), a("b")), a("c")}, {c("g", c("h", a("a"), a("b"))), a("c")}, {a("g(a,b)"), a("c")}, {a("\x00"), a("c")}, {a("\x00\x00"), a("c")},
		{a("p3 0 0 "), a("q")}, {a("p"), a("3 0 0 q")}, {a("p"), a("q")},
	}
	for k, x := range pairs {
		for m, y := range pairs {
			want := c("f", v(0), v(1))
			if k == m {
				want = c("f", v(0), v(0))
			}
			if got, err := term.General(c("f", x[0], y[0]), c("f", x[1], y[1])); err != api.OK || !same(got, want) {
				t.Errorf("pairs %d and %d: %s, %v", k, m, show(got), err)
			}
		}
	}
}

func TestGeneralIsTheLeast(t *testing.T) {
	l := pool()
	matches := make([][]bool, len(l))
	for k := range l {
		for m := range l {
			matches[k] = append(matches[k], match(t, l[k], l[m]))
		}
	}
	for k := range l {
		for m := range l {
			g, err := term.General(l[k], l[m])
			if err != api.OK || !match(t, g, l[k]) || !match(t, g, l[m]) {
				t.Fatalf("%s, %s: %s, %v", show(l[k]), show(l[m]), show(g), err)
			}
			for n, x := range varsOf(g) {
				if x != int64(n) {
					t.Fatalf("%s, %s: %s is not numbered from 0 on", show(l[k]), show(l[m]), show(g))
				}
			}
			for n := range l {
				if matches[n][k] && matches[n][m] && !match(t, l[n], g) {
					t.Fatalf("%s, %s: %s, but %s is less", show(l[k]), show(l[m]), show(g), show(l[n]))
				}
			}
		}
	}
}
