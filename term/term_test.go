package term_test

import (
	"strings"
	"testing"

	"hornbook/api"
	"hornbook/term"
)

func TestCheckTakesTerms(t *testing.T) {
	full := make([]api.Term, api.MaxArity)
	for k := range full {
		full[k] = a("a")
	}
	bytes := ""
	for k := 0; k < api.MaxName; k++ {
		bytes += string([]byte{byte(k * 37)})
	}
	none := make([]api.Term, 0, 3)
	list := []api.Term{
		v(0), v(api.MaxVar), i(0), i(-1 << 63), i(1<<63 - 1), a(""), a("a"), a("\x00"), a("\xff\xfe"),
		a(strings.Repeat("x", api.MaxName)), a(strings.Repeat("é", api.MaxName/2)), a(bytes),
		c("f", v(0)), c("", i(0)), c(strings.Repeat("x", api.MaxName), a("")), c("f", full...),
		c("f", c("f", full...), v(api.MaxVar), c("", c("", a("")))),
		{Kind: api.Var, N: 1, Args: none}, {Kind: api.Int, N: 1, Args: none}, {Kind: api.Atom, Name: "a", Args: none},
	}
	for _, x := range append(list, pool()...) {
		if err := term.Check(x); err != api.OK {
			t.Errorf("%s: %v", show(x), err)
		}
	}
}

func TestCheckRefusesTheRest(t *testing.T) {
	for _, x := range nones() {
		if err := term.Check(x); err != api.ErrTerm {
			t.Errorf("%s: %v", show(x), err)
		}
	}
}

func TestCompareByRank(t *testing.T) {
	l := []api.Term{
		v(0), v(1), v(10), v(api.MaxVar),
		i(-1 << 63), i(-2), i(-1), i(0), i(3), i(1<<63 - 1),
		a(""), a("\x00"), a("B"), a("a"), a("aa"), a("b"), a("é"), a("\xff"),
		c("", v(0)), c("a", a("b")), c("a", c("a", v(0))), c("aa", v(0)), c("z", v(0)),
		c("a", v(0), c("z", v(0))), c("a", v(1), v(0)), c("a", i(1), a("b")), c("a", i(2), a("a")), c("a", a("x"), c("y", i(1), i(1))),
		c("a", c("y", i(1), i(1)), i(0)), c("a", c("y", i(1), i(2)), i(-1)), c("b", v(0), v(0)),
		c("a", v(0), v(0), v(0)), c("a", v(0), v(0), v(1)), c("a", v(0), v(1), v(0)),
	}
	for k := range l {
		for m := range l {
			want := 0
			if k < m {
				want = -1
			} else if k > m {
				want = 1
			}
			if got, err := term.Compare(l[k], l[m]); got != want || err != api.OK {
				t.Errorf("%s, %s: %d, %v", show(l[k]), show(l[m]), got, err)
			}
		}
	}
	if got, err := term.Compare(c("f", v(0)), a("g")); got != 1 || err != api.OK {
		t.Errorf("f(X), g: %d, %v", got, err)
	}
}

func TestCompareIsAnOrder(t *testing.T) {
	l := pool()
	rank := map[[2]int]int{}
	for k := range l {
		for m := range l {
			got, err := term.Compare(l[k], l[m])
			if err != api.OK || (got == 0) != same(l[k], l[m]) {
				t.Fatalf("%s, %s: %d, %v", show(l[k]), show(l[m]), got, err)
			}
			if term.Order(l[k], l[m]) != got {
				t.Fatalf("%s, %s: the order is another", show(l[k]), show(l[m]))
			}
			rank[[2]int{k, m}] = got
		}
	}
	for k := range l {
		for m := range l {
			if rank[[2]int{k, m}] != -rank[[2]int{m, k}] {
				t.Fatalf("%s, %s: not turned round", show(l[k]), show(l[m]))
			}
			for n := range l {
				if rank[[2]int{k, m}] < 0 && rank[[2]int{m, n}] < 0 && rank[[2]int{k, n}] >= 0 {
					t.Fatalf("%s, %s, %s: no order", show(l[k]), show(l[m]), show(l[n]))
				}
			}
		}
	}
}

func TestMeasure(t *testing.T) {
	for _, x := range []struct {
		t           api.Term
		size, depth int
	}{
		{v(7), 1, 1}, {i(7), 1, 1}, {a(""), 1, 1}, {c("f", v(0)), 2, 2}, {c("f", v(0), v(0), a("a")), 4, 2},
		{c("f", c("g", c("h", i(1))), a("b")), 5, 4}, {c("f", a("b"), c("g", c("h", i(1)))), 5, 4},
		{c("f", c("g", i(1)), c("g", c("g", i(1))), c("g", i(1), i(1))), 9, 4},
	} {
		if size, depth, err := term.Measure(x.t); size != x.size || depth != x.depth || err != api.OK {
			t.Errorf("%s: %d, %d, %v", show(x.t), size, depth, err)
		}
	}
}

func TestVars(t *testing.T) {
	for _, x := range []struct {
		t    api.Term
		vars []int64
	}{
		{a("a"), nil}, {i(3), nil}, {v(api.MaxVar), []int64{api.MaxVar}}, {c("f", i(0), a("b")), nil},
		{c("f", v(9), v(0), v(9), v(4)), []int64{9, 0, 4}},
		{c("f", c("g", v(5), c("h", v(2))), v(1), c("g", v(2), v(0))), []int64{5, 2, 1, 0}},
	} {
		got, err := term.Vars(x.t)
		if err != api.OK || len(got) != len(x.vars) {
			t.Errorf("%s: %v, %v", show(x.t), got, err)
			continue
		}
		for k := range got {
			if got[k] != x.vars[k] {
				t.Errorf("%s: %v", show(x.t), got)
			}
		}
	}
}

func TestRename(t *testing.T) {
	const top = api.MaxVar
	two := c("f", v(1), v(0))
	for _, x := range []struct {
		t    api.Term
		from int64
		want api.Term
		next int64
		err  api.Errno
	}{
		{c("f", v(3), c("g", v(1), v(3)), a("a")), 5, c("f", v(5), c("g", v(6), v(5)), a("a")), 7, api.OK},
		{two, 0, c("f", v(0), v(1)), 2, api.OK},
		{two, 1, c("f", v(1), v(2)), 3, api.OK},
		{c("f", i(1), c("g", v(0)), v(2), v(0)), 2, c("f", i(1), c("g", v(2)), v(3), v(2)), 4, api.OK},
		{c("f", i(4), a("a")), 9, c("f", i(4), a("a")), 9, api.OK},
		{a("a"), top, a("a"), top, api.OK},
		{v(0), top, v(top), top + 1, api.OK},
		{c("f", v(top), v(top)), top, c("f", v(top), v(top)), top + 1, api.OK},
		{two, top - 1, c("f", v(top-1), v(top)), top + 1, api.OK},
		{two, top, api.Term{}, 0, api.ErrLarge},
		{c("f", v(0), v(1), v(2)), top - 1, api.Term{}, 0, api.ErrLarge},
		{two, -1, api.Term{}, 0, api.ErrArg},
		{a("a"), -1, api.Term{}, 0, api.ErrArg},
		{a("a"), top + 1, api.Term{}, 0, api.ErrArg},
		{two, top + 1, api.Term{}, 0, api.ErrArg},
		{two, -1 << 63, api.Term{}, 0, api.ErrArg},
		{two, 1<<63 - 1, api.Term{}, 0, api.ErrArg},
	} {
		got, next, err := term.Rename(x.t, x.from)
		if err != x.err || next != x.next || !same(got, x.want) {
			t.Errorf("%s from %d: %s, %d, %v", show(x.t), x.from, show(got), next, err)
		}
	}
}

func TestVariant(t *testing.T) {
	for _, x := range []struct {
		a, b api.Term
		is   bool
	}{
		{v(0), v(5), true}, {v(0), i(0), false}, {v(0), a("a"), false}, {a("a"), a("a"), true}, {i(1), i(2), false},
		{c("f", v(0), v(1)), c("f", v(1), v(0)), true},
		{c("f", v(0), v(1)), c("f", v(2), v(2)), false}, {c("f", v(2), v(2)), c("f", v(0), v(1)), false},
		{c("f", v(0), v(1), v(0)), c("f", v(1), v(2), v(1)), true}, {c("f", v(0), v(1), v(0)), c("f", v(1), v(2), v(2)), false},
		{c("f", v(0), c("g", v(0), v(1))), c("f", v(3), c("g", v(3), v(0))), true},
		{c("f", v(0), i(1)), c("f", v(1), i(2)), false}, {c("f", v(0)), c("g", v(0)), false}, {c("f", v(0)), c("f", v(0), v(0)), false},
	} {
		if is, err := term.Variant(x.a, x.b); is != x.is || err != api.OK {
			t.Errorf("%s, %s: %v, %v", show(x.a), show(x.b), is, err)
		}
	}
}

func TestVariantsMatchEachOther(t *testing.T) {
	for _, x := range pool() {
		for _, y := range pool() {
			is, err := term.Variant(x, y)
			if err != api.OK || is != (match(t, x, y) && match(t, y, x)) {
				t.Fatalf("%s, %s: %v, %v", show(x), show(y), is, err)
			}
		}
	}
}
