package grammar_test

import (
	"testing"

	"hornbook/api"
	"hornbook/base"
	"hornbook/grammar"
)

// translates says whether a rule, as a text, is turned into a clause, and that is one of package base.
func translates(t *testing.T, rule, want string) {
	t.Helper()
	got, err := grammar.Translate(read(t, rule))
	if err != api.OK || printed(got) != want {
		t.Errorf("%s: %s, %v, not %s", rule, printed(got), err, want)
		return
	}
	x, err := base.Make(got)
	if err != api.OK || !same(c(":-", x.Head, x.Body), got) {
		t.Errorf("%s: %s is another clause, %v", rule, printed(got), err)
	}
}

// TestTable: each line of the document's table.
func TestTable(t *testing.T) {
	for _, x := range [][2]string{
		{"s --> X", "s(_0,_1) :- call(_2,_0,_1)"}, {"s(X) --> X", "s(_0,_1,_2) :- call(_0,_1,_2)"}, {"s --> X,X", "s(_0,_1) :- call(_2,_0,_3),call(_2,_3,_1)"},
		{"s --> a,b", "s(_0,_1) :- a(_0,_2),b(_2,_1)"}, {"s --> a,b,c", "s(_0,_1) :- a(_0,_2),b(_2,_3),c(_3,_1)"}, {"s --> (a,b),c", "s(_0,_1) :- (a(_0,_2),b(_2,_3)),c(_3,_1)"},
		{"s --> a;b", "s(_0,_1) :- a(_0,_1) ; b(_0,_1)"}, {"s --> (a;b),c", "s(_0,_1) :- (a(_0,_2) ; b(_0,_2)),c(_2,_1)"}, {"s --> a,(b;c)", "s(_0,_1) :- a(_0,_2),(b(_2,_1) ; c(_2,_1))"},
		{"s --> (a,b;c,d),e", "s(_0,_1) :- (a(_0,_2),b(_2,_3) ; c(_0,_4),d(_4,_3)),e(_3,_1)"},
		{"s --> a->b", "s(_0,_1) :- a(_0,_2) -> b(_2,_1)"}, {"s --> a->b;c", "s(_0,_1) :- a(_0,_2) -> b(_2,_1) ; c(_0,_1)"}, {"s --> (a,b->c),d", "s(_0,_1) :- (a(_0,_2),b(_2,_3) -> c(_3,_4)),d(_4,_1)"},
		{"s --> \\+ a", "s(_0,_1) :- \\+ a(_0,_2),_0 = _1"}, {"s --> \\+ a,b", "s(_0,_1) :- (\\+ a(_0,_2),_0 = _3),b(_3,_1)"}, {"s --> \\+ \\+ a", "s(_0,_1) :- \\+ (\\+ a(_0,_2),_0 = _3),_0 = _1"},
		{"s --> \\+ (a,b),c", "s(_0,_1) :- (\\+ (a(_0,_2),b(_2,_3)),_0 = _4),c(_4,_1)"}, {"s --> \\+ []", "s(_0,_1) :- \\+ _0 = _2,_0 = _1"},
		{"s --> []", "s(_0,_1) :- _0 = _1"}, {"s --> [],[]", "s(_0,_1) :- _0 = _2,_2 = _1"}, {"s --> [a]", "s(_0,_1) :- _0 = [a|_1]"}, {"s --> [a,b,c]", "s(_0,_1) :- _0 = [a,b,c|_1]"},
		{"s --> [X,f(Y,X),[],[1,Z],{},-3]", "s(_0,_1) :- _0 = [_2,f(_3,_2),[],[1,_4],{},-3|_1]"}, {"s --> [[]]", "s(_0,_1) :- _0 = [[]|_1]"}, {"s --> [[a|X]]", "s(_0,_1) :- _0 = [[a|_2]|_1]"}, {"s --> [a|[b|[]]]", "s(_0,_1) :- _0 = [a,b|_1]"},
		{"s --> [a],s", "s(_0,_1) :- _0 = [a|_2],s(_2,_1)"},
		{"s --> {}", "s(_0,_1) :- _0 = _1"}, {"s --> {a}", "s(_0,_1) :- a,_0 = _1"}, {"s --> {X}", "s(_0,_1) :- call(_2),_0 = _1"}, {"s --> {a,X;Y->b}", "s(_0,_1) :- (a,call(_2) ; call(_3) -> b),_0 = _1"}, {"s --> {a},b", "s(_0,_1) :- (a,_0 = _2),b(_2,_1)"},
		{"s --> {!}", "s(_0,_1) :- !,_0 = _1"}, {"s --> {X = 1}", "s(_0,_1) :- _2 = 1,_0 = _1"}, {"s --> {\\+ X,f(1)}", "s(_0,_1) :- (\\+ _2,f(1)),_0 = _1"}, {"s --> {{a}}", "s(_0,_1) :- {a},_0 = _1"}, {"s --> {[a|X]}", "s(_0,_1) :- [a|_2],_0 = _1"},
		{"s --> !", "s(_0,_1) :- !,_0 = _1"}, {"s --> a,!", "s(_0,_1) :- a(_0,_2),!,_2 = _1"}, {"s --> !,a", "s(_0,_1) :- (!,_0 = _2),a(_2,_1)"},
		{"s --> call(f)", "s(_0,_1) :- call(f,_0,_1)"}, {"s --> call(X,Y)", "s(_0,_1) :- call(_2,_3,_0,_1)"}, {"s --> call(1)", "s(_0,_1) :- call(1,_0,_1)"}, {"s --> call([a|X],{1})", "s(_0,_1) :- call([a|_2],{1},_0,_1)"},
		{"s --> call(a,b,c,d,e,f)", "s(_0,_1) :- call(a,b,c,d,e,f,_0,_1)"}, {"s --> call((a,b))", "s(_0,_1) :- call((a,b),_0,_1)"},
		{"s --> a", "s(_0,_1) :- a(_0,_1)"}, {"s --> a(1,X)", "s(_0,_1) :- a(1,_2,_0,_1)"}, {"s --> a((b,1),[c|X],{2})", "s(_0,_1) :- a((b,1),[c|_2],{2},_0,_1)"},
	} {
		translates(t, x[0], x[1])
	}
}

// TestLikeTheTable: what has a name of the table's bodies, but other Args, is as any other.
func TestLikeTheTable(t *testing.T) {
	for _, x := range [][2]string{
		{"s --> ','(a)", "s(_0,_1) :- ','(a,_0,_1)"}, {"s --> ','(a,1,c)", "s(_0,_1) :- ','(a,1,c,_0,_1)"}, {"s --> ;(a)", "s(_0,_1) :- ;(a,_0,_1)"}, {"s --> ->(1,2,3)", "s(_0,_1) :- ->(1,2,3,_0,_1)"},
		{"s --> \\+", "s(_0,_1) :- \\+(_0,_1)"}, {"s --> \\+(a,b)", "s(_0,_1) :- \\+(a,b,_0,_1)"}, {"s --> '[]'(a)", "s(_0,_1) :- '[]'(a,_0,_1)"}, {"s --> '.'", "s(_0,_1) :- '.'(_0,_1)"}, {"s --> '.'(a)", "s(_0,_1) :- '.'(a,_0,_1)"}, {"s --> '.'(a,b,c)", "s(_0,_1) :- '.'(a,b,c,_0,_1)"},
		{"s --> '{}'(1,2)", "s(_0,_1) :- '{}'(1,2,_0,_1)"}, {"s --> !(a)", "s(_0,_1) :- !(a,_0,_1)"}, {"s --> true", "s(_0,_1) :- true(_0,_1)"}, {"s --> fail,nl", "s(_0,_1) :- fail(_0,_2),nl(_2,_1)"}, {"s --> print(a)", "s(_0,_1) :- print(a,_0,_1)"},
		{"s --> a = b", "s(_0,_1) :- =(a,b,_0,_1)"}, {"s --> findall(a,b,c)", "s(_0,_1) :- findall(a,b,c,_0,_1)"}, {"s --> (a:-1)", "s(_0,_1) :- :-(a,1,_0,_1)"}, {"s --> (a-->1)", "s(_0,_1) :- -->(a,1,_0,_1)"}, {"s --> length(X)", "s(_0,_1) :- length(_2,_0,_1)"}, {"s --> ''", "s(_0,_1) :- ''(_0,_1)"},
	} {
		want, _ := naiveTranslate(read(t, x[0]))
		translates(t, x[0], printed(want))
		if got, _ := grammar.Translate(read(t, x[0])); !same(got, read(t, x[1])) {
			t.Errorf("%s: %s", x[0], show(got))
		}
	}
}

func TestHeads(t *testing.T) {
	for _, x := range [][2]string{
		{"s(X,Y) --> a(Y),b(X)", "s(_0,_1,_2,_3) :- a(_1,_2,_4),b(_0,_4,_3)"}, {"s(f(Y,X),Y) --> {p(Z,X)},[Z]", "s(f(_0,_1),_0,_2,_3) :- (p(_4,_1),_2 = _5),_5 = [_4|_3]"}, {"s(a,[1|X],{b}) --> []", "s(a,[1|_0],{b},_1,_2) :- _1 = _2"},
		{"[] --> a", "'[]'(_0,_1) :- a(_0,_1)"}, {"{} --> a", "'{}'(_0,_1) :- a(_0,_1)"}, {"! --> a", "!(_0,_1) :- a(_0,_1)"}, {"true --> a", "true(_0,_1) :- a(_0,_1)"},
		// What stands behind a head's `,` has no meaning of its own.
		{"s,[a] --> b", "','(s,[a],_0,_1) :- b(_0,_1)"}, {"[a] --> b", "'.'(a,[],_0,_1) :- b(_0,_1)"}, {"{1} --> b", "'{}'(1,_0,_1) :- b(_0,_1)"},
		// In a head `call` is as any other.
		{"call(a,b,c,d,e,f,g) --> b", "call(a,b,c,d,e,f,g,_0,_1) :- b(_0,_1)"},
	} {
		got, err := grammar.Translate(read(t, x[0]))
		if err != api.OK || !same(got, read(t, x[1])) {
			t.Errorf("%s: %s, %v", x[0], show(got), err)
		}
	}
}

// TestNumbering: the numbers that the rule's variables have make no difference.
func TestNumbering(t *testing.T) {
	for _, n := range [][2]int64{{0, 1}, {1, 0}, {2, 3}, {api.MaxVar, api.MaxVar - 1}, {0, api.MaxVar}, {7, 5}} {
		x, y := v(n[0]), v(n[1])
		got, err := grammar.Translate(arrow(c("s", y), c(",", x, c(",", list(a("[]"), x, y), c("a", y)))))
		if err != api.OK || printed(got) != "s(_0,_1,_2) :- call(_3,_1,_4),_4 = [_3,_0|_5],a(_0,_5,_2)" {
			t.Errorf("%v: %s, %v", n, printed(got), err)
		}
	}
}

// refused says whether an error is told, and nothing else.
func refused(t *testing.T, x api.Term, want api.Errno) {
	t.Helper()
	if got, err := grammar.Translate(x); err != want || !isZero(got) {
		t.Errorf("%s: %s, %v, not %v", show(x), show(got), err, want)
	}
}

func TestRefusedRules(t *testing.T) {
	for _, x := range nones() {
		refused(t, x, api.ErrTerm)
	}
	for _, x := range []api.Term{v(0), v(api.MaxVar), i(0), i(least), a("-->"), a("s"), a(""), c("-->", a("s")), c("-->", a("s"), a("a"), a("b")), c(":-", a("s"), a("a")), c("-->>", a("s"), a("a")), c("-->", i(1))} {
		refused(t, x, api.ErrArg)
	}
	for _, x := range []api.Term{v(0), v(api.MaxVar), i(0), i(-5)} {
		refused(t, arrow(x, a("a")), api.ErrClause)
		// The head comes ahead of the body.
		refused(t, arrow(x, i(1)), api.ErrClause)
		refused(t, arrow(x, of("a", 49)), api.ErrClause)
	}
	refused(t, arrow(of("s", 49), i(1)), api.ErrLarge)
	refused(t, arrow(of("s", 50), a("=")), api.ErrLarge)
	refused(t, arrow(of("call", 49), a("=")), api.ErrLarge)
	refused(t, arrow(of("s", 48), i(1)), api.ErrKind)
}

// TestReservedHeads: by the head with two Args more, not by the head itself.
func TestReservedHeads(t *testing.T) {
	for _, name := range append(reservedNames(), otherNames()...) {
		for n := 0; n <= api.MaxArity; n++ {
			head := of(name, n)
			switch {
			case isReserved(name, n+2):
				refused(t, arrow(head, a("a")), api.ErrClause)
			case n+2 > api.MaxArity:
				refused(t, arrow(head, a("a")), api.ErrLarge)
			default:
				want := c(":-", c(name, append(of(name, n).Args, v(0), v(1))...), c("a", v(0), v(1)))
				if got, err := grammar.Translate(arrow(head, a("a"))); err != api.OK || !same(got, want) {
					t.Errorf("%s: %s, %v", show(head), show(got), err)
				}
			}
		}
	}
}
