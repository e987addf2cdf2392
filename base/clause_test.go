package base_test

import (
	"strconv"
	"strings"
	"testing"

	"hornbook/api"
	"hornbook/base"
)

func TestReserved(t *testing.T) {
	for _, s := range strings.Fields(reserved) {
		at := strings.LastIndexByte(s, '/')
		n, _ := strconv.Atoi(s[at+1:])
		if !base.Reserved(s[:at], n) {
			t.Error(s, "is not")
		}
	}
	for _, name := range append(reservedNames(), otherNames()...) {
		for n := -3; n < api.MaxArity+3; n++ {
			if got := base.Reserved(name, n); got != isReserved(name, n) {
				t.Errorf("%q/%d: %v", name, n, got)
			}
		}
		for _, n := range []int{least, least + 1, -1 << 32, 1 << 32, 1<<32 + 1, 1<<32 + 2, greatest - 1, greatest} {
			if base.Reserved(name, n) {
				t.Errorf("%q/%d", name, n)
			}
		}
	}
}

func TestBody(t *testing.T) {
	for _, x := range []struct{ from, to string }{
		{"X", "call(X)"}, {"a", "a"}, {"f(X,3)", "f(X,3)"}, {"!", "!"}, {"true", "true"}, {"[]", "[]"}, {"','", "','"}, {"(;)", "(;)"}, {"''", "''"},
		{"(X,Y)", "(call(X),call(Y))"}, {"(X;Y)", "(call(X);call(Y))"}, {"(X->Y)", "(call(X)->call(Y))"}, {"(a,b,c)", "(a,b,c)"},
		{"(X,X,X)", "(call(X),call(X),call(X))"}, {"((X,Y),Z)", "((call(X),call(Y)),call(Z))"}, {"(X->Y;Z)", "(call(X)->call(Y);call(Z))"},
		{"(a,(X;b->Y),!)", "(a,(call(X);b->call(Y)),!)"}, {"((a->b),X)", "((a->b),call(X))"},
		{"call(X)", "call(X)"}, {"call(3)", "call(3)"}, {"call((X,3))", "call((X,3))"}, {"(call(X),X)", "(call(X),call(X))"},
		{"\\+ X", "\\+ X"}, {"\\+ 3", "\\+ 3"}, {"\\+ (X,3)", "\\+ (X,3)"}, {"findall(X,Y,Z)", "findall(X,Y,Z)"}, {"catch(X,Y,(Z,1))", "catch(X,Y,(Z,1))"},
		{"(a:-X)", "(a:-X)"}, {"(:- X)", "(:- X)"}, {"(X-->Y)", "(X-->Y)"}, {"X = Y", "X = Y"}, {"[X]", "[X]"}, {"{X}", "{X}"}, {"f((X,Y))", "f((X,Y))"},
		{"','(X)", "','(X)"}, {"','(X,3,Y)", "','(X,3,Y)"}, {"';'(X)", "';'(X)"}, {"'->'(1)", "'->'(1)"}, {"'->'(1,X,Y)", "'->'(1,X,Y)"}, {"(a,','(X,3,Y))", "(a,','(X,3,Y))"},
	} {
		from, want := read(t, x.from), read(t, x.to)
		if got, err := base.Body(from); err != api.OK || !same(got, want) {
			t.Errorf("%s: %s, %v", x.from, show(got), err)
		}
	}
	for _, n := range []int64{0, 1, api.MaxVar} {
		if got, err := base.Body(v(n)); err != api.OK || !same(got, c("call", v(n))) {
			t.Errorf("_%d: %s, %v", n, show(got), err)
		}
	}
	for _, s := range []string{"3", "0", "-1", "(a,3)", "(3,a)", "(a;3)", "(3;a)", "(a->3)", "(3->a)", "(X->3;a)", "(X,(Y;(Z->1)))", "(((1->X);Y),Z)", "(a,b,c,4)", "(1,2)"} {
		if got, err := base.Body(read(t, s)); err != api.ErrClause || !isZero(got) {
			t.Errorf("%s: %s, %v", s, show(got), err)
		}
	}
}

func TestBodyAgainstTheWords(t *testing.T) {
	x, none := chance(5), 0
	for range 20000 {
		u := x.body(4)
		want, ok := naiveBody(u)
		got, err := base.Body(u)
		if !ok {
			none++
			if err != api.ErrClause || !isZero(got) {
				t.Fatalf("%s: %s, %v", show(u), show(got), err)
			}
			continue
		}
		if err != api.OK || !same(got, want) {
			t.Fatalf("%s: %s, %v", show(u), show(got), err)
		}
		if again, err := base.Body(got); err != api.OK || !same(again, got) {
			t.Fatalf("the body of the body %s: %s, %v", show(got), show(again), err)
		}
	}
	if none < 1000 || none > 19000 {
		t.Error("too few of one kind:", none)
	}
}

func TestMake(t *testing.T) {
	for _, x := range []struct {
		from string
		want api.Clause
	}{
		{"p", fact(a("p"))}, {"[]", fact(a("[]"))}, {"''", fact(a(""))}, {"p(a,3)", fact(c("p", a("a"), i(3)))}, {"p(X,Y,X)", fact(c("p", v(0), v(1), v(0)))},
		{"p:-q", rule(a("p"), a("q"))}, {"p:-true", fact(a("p"))}, {"p:-(true,true)", rule(a("p"), c(",", a("true"), a("true")))}, {"p:-fail", rule(a("p"), a("fail"))},
		{"p:-X", rule(a("p"), c("call", v(0)))}, {"p(X):-X", rule(c("p", v(0)), c("call", v(0)))}, {"p:-call(X)", rule(a("p"), c("call", v(0)))},
		{"p(Y,X):-X,(q;Y)", rule(c("p", v(0), v(1)), c(",", c("call", v(1)), c(";", a("q"), c("call", v(0)))))},
		{"p(B,f(A,B)):-q(C,A),D,r(D,B)", rule(c("p", v(0), c("f", v(1), v(0))), c(",", c("q", v(2), v(1)), c(",", c("call", v(3)), c("r", v(3), v(0)))))},
		{"p:-q(B,A,B)", rule(a("p"), c("q", v(0), v(1), v(0)))}, {"p(_,_):-q(_)", rule(c("p", v(0), v(1)), c("q", v(2)))},
		{"p:-(a:-b)", rule(a("p"), c(":-", a("a"), a("b")))}, {"p:-(X:-Y)", rule(a("p"), c(":-", v(0), v(1)))}, {"p:- \\+ 3", rule(a("p"), c("\\+", i(3)))},
		{"p((a:-b))", fact(c("p", c(":-", a("a"), a("b"))))}, {"p(X,3):-(a->b;!)", rule(c("p", v(0), i(3)), c(";", c("->", a("a"), a("b")), a("!")))},
		{"call", fact(a("call"))}, {"call:-a", rule(a("call"), a("a"))}, {"':-'", fact(a(":-"))}, {"':-'(A,B,A)", fact(c(":-", v(0), v(1), v(0)))}, {"':-'(A,3,B):-B", rule(c(":-", v(0), i(3), v(1)), c("call", v(1)))},
		{"','(X)", fact(c(",", v(0)))}, {"','", fact(a(","))}, {"true(X)", fact(c("true", v(0)))}, {"nl(X):-a", rule(c("nl", v(0)), a("a"))}, {"call(A,B,C,D,E,F,G,H,I)", fact(of("call", 9))},
	} {
		got, err := base.Make(read(t, "("+x.from+")"))
		if err != api.OK || !sameClause(got, x.want) {
			t.Errorf("%s: %s, %v", x.from, showClause(got), err)
		}
	}
}

// TestMakeNumbersAnew: whatever numbers there were.
func TestMakeNumbersAnew(t *testing.T) {
	for _, n := range []int64{0, 1, 5, 1 << 32, api.MaxVar - 1} {
		from := c(":-", c("p", v(n+1), c("f", v(n))), c(",", v(n), c("q", v(7), v(n+1), v(8))))
		want := rule(c("p", v(0), c("f", v(1))), c(",", c("call", v(1)), c("q", v(2), v(0), v(3))))
		if got, err := base.Make(from); err != api.OK || !sameClause(got, want) {
			t.Errorf("from %d on: %s, %v", n, showClause(got), err)
		}
		if got, err := base.Make(c("p", v(n+1), v(n), v(n+1))); err != api.OK || !sameClause(got, fact(c("p", v(0), v(1), v(0)))) {
			t.Errorf("from %d on: %s, %v", n, showClause(got), err)
		}
	}
}

func TestMakeOfNoClause(t *testing.T) {
	for _, s := range []string{"X", "3", "-3", "(a,b)", "(a;b)", "(a->b)", "\\+ a", "(:- a)", "(a-->b)", "call(X)", "X=Y", "(X:-a)", "(3:-a)", "(X:-X)", "(a:-3)", "(a:-b,3)", "(a:-3,b)", "(a:-(b;3))", "(a:-(3->b))", "(a:-(b->c;3))", "(print(X):-a)", "((a,b):-c)", "((a:-b):-c)", "((:- a):-c)", "((a-->b):-c)", "(!:-a)", "!", "true", "(true:-true)", "nl", "(print(X):-3)", "(X:-3)"} {
		if got, err := base.Make(read(t, s)); err != api.ErrClause || !isZeroClause(got) {
			t.Errorf("%s: %s, %v", s, showClause(got), err)
		}
	}
}

func TestNoHeadIsReserved(t *testing.T) {
	for _, name := range append(reservedNames(), otherNames()...) {
		for n := range api.MaxArity + 1 {
			head := of(name, n)
			want := api.OK
			switch {
			case len(name) > api.MaxName:
				want = api.ErrTerm
			case name == ":-" && n == 2:
				// It is no head: it has one.
				head = c(":-", head, a("a"))
				want = api.ErrClause
			case isReserved(name, n):
				want = api.ErrClause
			}
			for _, u := range []api.Term{head, c(":-", head, a("a")), c(":-", head, a("true")), c(":-", head, v(100))} {
				if got, err := base.Make(u); err != want || (err == api.OK) != same(got.Head, head) {
					t.Errorf("%s: %s, %v", show(u), showClause(got), err)
				}
			}
			for _, x := range []api.Clause{fact(head), rule(head, a("a")), rule(head, c("call", v(int64(n))))} {
				if got, err := base.Plain(x); err != want || (err == api.OK) == isZero(got) {
					t.Errorf("%s: %s, %v", showClause(x), show(got), err)
				}
			}
		}
	}
}

func TestMakeAndPlainAgainstTheWords(t *testing.T) {
	x, none := chance(6), 0
	for range 20000 {
		u := x.sentence()
		want, ok := naiveMake(u)
		got, err := base.Make(u)
		if !ok {
			none++
			if err != api.ErrClause || !isZeroClause(got) {
				t.Fatalf("%s: %s, %v", show(u), showClause(got), err)
			}
			continue
		}
		if err != api.OK || !sameClause(got, want) {
			t.Fatalf("%s: %s, %v", show(u), showClause(got), err)
		}
		written, err := base.Plain(got)
		wantWritten := c(":-", want.Head, want.Body)
		if same(want.Body, a("true")) {
			wantWritten = want.Head
		}
		if err != api.OK || !same(written, wantWritten) {
			t.Fatalf("%s is written %s, %v", showClause(got), show(written), err)
		}
		if again, err := base.Make(written); err != api.OK || !sameClause(again, got) {
			t.Fatalf("%s is written %s, of which is made %s, %v", showClause(got), show(written), showClause(again), err)
		}
	}
	if none < 1000 || none > 19000 {
		t.Error("too few of one kind:", none)
	}
}

// TestPlainAgainstTheWords: any two terms, of which few are a clause.
func TestPlainAgainstTheWords(t *testing.T) {
	x, clauses := chance(7), 0
	for range 40000 {
		y := rule(x.term(2), x.body(2))
		if x.below(2) == 0 {
			met := []int64{}
			y.Head, met = numbered(y.Head, met)
			y.Body, _ = numbered(y.Body, met)
		}
		u := c(":-", y.Head, y.Body)
		if same(y.Body, a("true")) {
			u = y.Head
		}
		made, ok := naiveMake(u)
		ok = ok && sameClause(made, y)
		got, err := base.Plain(y)
		if ok {
			clauses++
		}
		if ok && (err != api.OK || !same(got, u)) || !ok && (err != api.ErrClause || !isZero(got)) {
			t.Fatalf("%s: %s, %v", showClause(y), show(got), err)
		}
		b := base.New()
		if id, added := b.Add(y, false); added != err || (id == 1) != ok || len(b.All()) != id {
			t.Fatalf("%s: Add gives %d, %v", showClause(y), id, added)
		}
	}
	if clauses < 4000 || clauses > 36000 {
		t.Error("too few of one kind:", clauses)
	}
}

func TestPlain(t *testing.T) {
	for _, x := range []struct {
		from api.Clause
		want api.Term
	}{
		{fact(a("p")), a("p")}, {fact(c("p", v(0), v(1))), c("p", v(0), v(1))}, {rule(a("p"), a("q")), c(":-", a("p"), a("q"))}, {rule(a("p"), a("")), c(":-", a("p"), a(""))},
		{rule(a("p"), c("true", v(0))), c(":-", a("p"), c("true", v(0)))}, {rule(c("p", v(0)), c("call", v(1))), c(":-", c("p", v(0)), c("call", v(1)))},
		{rule(a("p"), c("\\+", v(0))), c(":-", a("p"), c("\\+", v(0)))}, {rule(a("p"), c(",", a("true"), a("true"))), c(":-", a("p"), c(",", a("true"), a("true")))},
		{rule(a("p"), c(":-", a("q"), i(3))), c(":-", a("p"), c(":-", a("q"), i(3)))}, {fact(c(":-", v(0), i(1), v(1))), c(":-", v(0), i(1), v(1))},
	} {
		if got, err := base.Plain(x.from); err != api.OK || !same(got, x.want) {
			t.Errorf("%s: %s, %v", showClause(x.from), show(got), err)
		}
	}
	for _, x := range []api.Clause{
		fact(v(0)), fact(i(3)), fact(a("true")), rule(v(0), a("a")), rule(i(0), a("a")), rule(c("call", v(0)), a("a")),
		rule(a("p"), v(0)), rule(a("p"), i(3)), rule(a("p"), c(",", a("a"), v(0))), rule(a("p"), c(";", i(3), a("a"))), rule(a("p"), c("->", a("a"), i(3))),
		fact(c("p", v(1))), fact(c("p", v(0), v(2))), fact(c("p", v(1), v(0))), fact(c("p", v(api.MaxVar))), rule(c("p", v(0)), c("q", v(2))), rule(c("p", v(1)), c("q", v(0))), rule(a("p"), c("q", v(1))), rule(c("p", v(1)), c("q", v(1))),
		// These are the terms of other clauses.
		fact(c(":-", a("p"), a("q"))), fact(c(":-", a("p"), a("true"))), fact(c(":-", v(0), v(1))), rule(c(":-", a("p"), a("q")), a("r")), fact(c(":-", c("p", v(0)), c("call", v(0)))),
	} {
		if got, err := base.Plain(x); err != api.ErrClause || !isZero(got) {
			t.Errorf("%s: %s, %v", showClause(x), show(got), err)
		}
	}
}

// TestNoTermComesFirst: whatever else is wrong.
func TestNoTermComesFirst(t *testing.T) {
	others := []api.Term{a("a"), a("true"), v(0), v(3), i(3), c("call", v(0)), c("p", v(9)), c(",", i(3), a("a"))}
	b := base.New()
	for _, x := range nones() {
		if got, err := base.Body(x); err != api.ErrTerm || !isZero(got) {
			t.Errorf("Body of %s: %s, %v", show(x), show(got), err)
		}
		if got, err := base.Make(x); err != api.ErrTerm || !isZeroClause(got) {
			t.Errorf("Make of %s: %s, %v", show(x), showClause(got), err)
		}
		if got, err := b.Look(x); err != api.ErrTerm || got != nil {
			t.Errorf("Look of %s: %v, %v", show(x), got, err)
		}
		if got, err := b.View(x); err != api.ErrTerm || got != nil {
			t.Errorf("View of %s: %v, %v", show(x), got, err)
		}
		for _, y := range append(others, x) {
			for _, z := range []api.Clause{rule(x, y), rule(y, x)} {
				if got, err := base.Plain(z); err != api.ErrTerm || !isZero(got) {
					t.Errorf("Plain of %s: %s, %v", showClause(z), show(got), err)
				}
				for _, first := range []bool{false, true} {
					if got, err := b.Add(z, first); err != api.ErrTerm || got != 0 {
						t.Errorf("Add of %s: %d, %v", showClause(z), got, err)
					}
				}
			}
		}
	}
	if id, err := b.Add(fact(a("a")), false); id != 1 || err != api.OK || len(b.All()) != 1 {
		t.Error("something was laid down:", id, err, b.All())
	}
}
