package text_test

import (
	"slices"
	"strconv"
	"strings"
	"testing"

	"hornbook/api"
	"hornbook/text"
)

func list(rest api.Term, items ...api.Term) api.Term {
	for k := len(items) - 1; k >= 0; k-- {
		rest = c(".", items[k], rest)
	}
	return rest
}

type reading struct {
	s    string
	want api.Term
}

func TestReadPrimary(t *testing.T) {
	x, y, z, none := a("a"), a("b"), a("c"), a("[]")
	for _, l := range []reading{
		{"a", x}, {" a % c\n", x}, {"'a'", x}, {"'A b'", a("A b")}, {"''", a("")}, {"!", a("!")}, {"7", i(7)}, {"0'a", i(97)}, {"X", v(0)}, {"_", v(0)}, {"9223372036854775807", i(1<<63 - 1)}, {"'.'", a(".")}, {"','", a(",")}, {"'|'", a("|")},
		// Brackets.
		{"(a)", x}, {"((a))", x}, {"( (a) )", x}, {"(a:-b)", c(":-", x, y)}, {"((a,b),c)", c(",", c(",", x, y), z)}, {"(a,(b,c))", c(",", x, c(",", y, z))}, {"((a)-b)-c", c("-", c("-", x, y), z)}, {"(((a)-b),c)", c(",", c("-", x, y), z)},
		{"((a)+b,c)", c(",", c("+", x, y), z)}, {"((a)=b)", c("=", x, y)}, {"(((a):-b)-c)", c("-", c(":-", x, y), z)}, {"((a):-(b))", c(":-", x, y)}, {"(((a)-b)-c)", c("-", c("-", x, y), z)}, {"((a)-(b-c))", c("-", x, c("-", y, z))},
		// Lists.
		{"[]", none}, {"[ ]", none}, {"'[]'", none}, {"[a]", list(none, x)}, {"[a,b]", list(none, x, y)}, {"[a|b]", list(y, x)}, {"[a,b|X]", list(v(0), x, y)}, {"[a|[b]]", list(none, x, y)}, {"[[]]", list(none, none)}, {"[[a],[]|[]]", list(none, list(none, x), none)},
		{"[a=b,c]", list(none, c("=", x, y), z)}, {"[(a,b),c]", list(none, c(",", x, y), z)}, {"[(a:-b)|c]", list(z, c(":-", x, y))}, {"[a|(b,c)]", list(c(",", y, z), x)}, {"[a|b=c]", list(c("=", y, z), x)}, {"'.'(a,[])", list(none, x)}, {"'.'(a)", c(".", x)}, {".(a,b)", c(".", x, y)},
		{"[-]", list(none, a("-"))}, {"[-,a]", list(none, a("-"), x)}, {"[-|-]", list(a("-"), a("-"))}, {"[- a]", list(none, c("-", x))},
		// Braces.
		{"{}", a("{}")}, {"{ }", a("{}")}, {"'{}'", a("{}")}, {"{a}", c("{}", x)}, {"'{}'(a)", c("{}", x)}, {"{a,b}", c("{}", c(",", x, y))}, {"{a:-b}", c("{}", c(":-", x, y))}, {"{-}", c("{}", a("-"))}, {"{{}}", c("{}", a("{}"))}, {"'{}'(a,b)", c("{}", x, y)}, {"{[a]}", c("{}", list(none, x))},
		// A name with Args: directly ahead of the bracket.
		{"f(a)", c("f", x)}, {"f(a,b,c)", c("f", x, y, z)}, {"f( a , b )", c("f", x, y)}, {"'a b'(X)", c("a b", v(0))}, {"''(a)", c("", x)}, {"!(a)", c("!", x)}, {"f((a,b))", c("f", c(",", x, y))}, {"f((a:-b),c)", c("f", c(":-", x, y), z)}, {"f(a=b)", c("f", c("=", x, y))},
		{"f(',')", c("f", a(","))}, {"','(a,b)", c(",", x, y)}, {"'|'(a)", c("|", x)}, {"'[]'(a)", c("[]", x)}, {"f(\n%a\na/**/)", c("f", x)}, {"f(\\+a)", c("f", c("\\+", x))},
		{"-(a)", c("-", x)}, {"-(a,b)", c("-", x, y)}, {"-(a,b,c)", c("-", x, y, z)}, {"-(1)", c("-", i(1))}, {"'-'(1)", c("-", i(1))}, {"=(a)", c("=", x)}, {"=(a,b)=c", c("=", c("=", x, y), z)}, {"\\+(a,b)", c("\\+", x, y)}, {":-(a,b)", c(":-", x, y)}, {"f(:-(a))", c("f", c(":-", x))},
		{"f(:-)", c("f", a(":-"))}, {"f(:-,-)", c("f", a(":-"), a("-"))}, {"f(-)", c("f", a("-"))}, {"f(=,;)", c("f", a("="), a(";"))},
		// Signs.
		{"-1", i(-1)}, {"- 1", c("-", i(1))}, {"- /**/1", c("-", i(1))}, {"-%\n1", c("-", i(1))}, {"'-'1", c("-", i(1))}, {"'-' 1", c("-", i(1))}, {"-9223372036854775808", i(-1 << 63)}, {"-9223372036854775807", i(-1<<63 + 1)}, {"-0", i(0)}, {"-0'a", i(-97)}, {"-007", i(-7)},
		{"- -1", c("-", i(-1))}, {"- - 1", c("-", c("-", i(1)))}, {"(-1)", i(-1)}, {"[-1]", list(none, i(-1))}, {"f(-1)", c("f", i(-1))}, {"\\ -1", c("\\", i(-1))}, {"-a", c("-", x)}, {"-X", c("-", v(0))}, {"- -a", c("-", c("-", x))}, {"\\1", c("\\", i(1))},
	} {
		reads(t, l.s, text.Default(), l.want)
	}
}

func TestReadOperators(t *testing.T) {
	x, y, z, none := a("a"), a("b"), a("c"), a("[]")
	for _, l := range []reading{
		{"1-1", c("-", i(1), i(1))}, {"1 -1", c("-", i(1), i(1))}, {"1 - 1", c("-", i(1), i(1))}, {"1- -1", c("-", i(1), i(-1))}, {"a - - 1", c("-", x, c("-", i(1)))}, {"-1-1", c("-", i(-1), i(1))}, {"- 1-1", c("-", c("-", i(1)), i(1))}, {"+ -1", c("-", a("+"), i(1))},
		{"-1^2", c("^", i(-1), i(2))}, {"- 1^2", c("-", c("^", i(1), i(2)))}, {"-(1)^2", c("^", c("-", i(1)), i(2))}, {"- (1)^2", c("-", c("^", i(1), i(2)))}, {"a= -1", c("=", x, i(-1))}, {"a is-1", c("is", x, i(-1))},
		{"a- -1*B", c("-", x, c("*", i(-1), v(0)))}, {"a-b-c", c("-", c("-", x, y), z)}, {"a-(b-c)", c("-", x, c("-", y, z))}, {"a^b^c", c("^", x, c("^", y, z))}, {"(a^b)^c", c("^", c("^", x, y), z)}, {"a+b*c", c("+", x, c("*", y, z))}, {"a*b+c", c("+", c("*", x, y), z)}, {"a=b-c", c("=", x, c("-", y, z))}, {"a-b=c", c("=", c("-", x, y), z)},
		{"a:-b,c;a->b", c(":-", x, c(";", c(",", y, z), c("->", x, y)))}, {"a,b,c", c(",", x, c(",", y, z))}, {"a;b;c", c(";", x, c(";", y, z))}, {"a->b;c", c(";", c("->", x, y), z)}, {"a mod b", c("mod", x, y)}, {"a 'mod' b", c("mod", x, y)}, {"a'mod'b", c("mod", x, y)}, {"a '=' b", c("=", x, y)}, {"a =(b)", c("=", x, y)}, {"a=(b,c)", c("=", x, c(",", y, z))}, {"a-(b)-c", c("-", c("-", x, y), z)}, {"a,(b)", c(",", x, y)}, {"a-->b", c("-->", x, y)},
		{":-a", c(":-", x)}, {":- a,b", c(":-", c(",", x, y))}, {"':-' a", c(":-", x)}, {"\\+a,b", c(",", c("\\+", x), y)}, {"\\+ \\+a", c("\\+", c("\\+", x))}, {"\\+a=b", c("\\+", c("=", x, y))}, {"-a^b", c("-", c("^", x, y))}, {"(-a)^b", c("^", c("-", x), y)}, {"-a-b", c("-", c("-", x), y)}, {"-a*b", c("*", c("-", x), y)}, {"- \\a", c("-", c("\\", x))}, {"- (a,b)", c("-", c(",", x, y))}, {"\\+ (a,b)", c("\\+", c(",", x, y))},
		{"-[a]", c("-", list(none, x))}, {"-{a}", c("-", c("{}", x))}, {"-[]", c("-", none)}, {"- (a)", c("-", x)}, {"-(-(1))", c("-", c("-", i(1)))}, {"- =(a)", c("-", c("=", x))}, {"- = (a)", c("=", a("-"), x)}, {"-'-'", c("-", a("-"))}, {"-'b'", c("-", y)}, {"- - =(a)", c("-", c("-", c("=", x)))},
		// Operators that stand for themselves.
		{"-", a("-")}, {":-", a(":-")}, {"=", a("=")}, {"- = -", c("=", a("-"), a("-"))}, {"a= \\+", c("=", x, a("\\+"))}, {"\\+ = a", c("=", a("\\+"), x)}, {"= = =", c("=", a("="), a("="))}, {"-(-)", c("-", a("-"))}, {"- (-)", c("-", a("-"))}, {"- - = a", c("=", c("-", a("-")), x)}, {":- = a", c("=", a(":-"), x)}, {"mod mod mod", c("mod", a("mod"), a("mod"))}, {"(-)-(-)", c("-", a("-"), a("-"))}, {"\\ -", c("\\", a("-"))}, {"- ,a", c(",", a("-"), x)}, {"[]=[]", c("=", none, none)}, {"; ; ;", c(";", a(";"), a(";"))},
		// Whatever is a prefix one too can begin a term.
		{"- - -", c("-", c("-", a("-")))}, {"a - - -", c("-", x, c("-", a("-")))}, {"- - - 1", c("-", c("-", c("-", i(1))))}, {"- -", c("-", a("-"))}, {":- :-", c(":-", a(":-"))}, {"a :- :-", c(":-", x, a(":-"))},
		// A `,` between quotes is no operator.
		{"',' = ','", c("=", a(","), a(","))}, {"- ','", c("-", a(","))}, {"',','|'", c(",", a(","), a("|"))},
	} {
		reads(t, l.s, text.Default(), l.want)
	}
}

func TestReadFaults(t *testing.T) {
	for _, l := range []struct {
		s  string
		at int
	}{
		{"", 0}, {"  ", 2}, {"% a", 3}, {"a b", 2}, {"f(a", 3}, {"f(a ", 4}, {"f(", 2}, {"f()", 2}, {"f(,)", 2}, {"f(a,)", 4}, {"f(a,,b)", 4}, {"f(a b)", 4}, {"f(a]", 3}, {"f(a|b)", 3}, {"f(a.", 3}, {"f(a).", 4}, {"f(a))", 4}, {"f(a)(b)", 4}, {"f (a)", 2}, {"X(a)", 1}, {"1(a)", 1}, {"[](a)", 2}, {"{}(a)", 2}, {"(a)(b)", 3},
		{"a.", 1}, {"a. b", 1}, {".", 0}, {"a b.", 2}, {"a X", 2}, {"X Y", 2}, {"a 1", 2}, {"1 1", 2}, {"a 'b'", 2}, {"a []", 2}, {"a {}", 2}, {"a (b)", 2},
		{"9223372036854775808", 0}, {"- 9223372036854775808", 2}, {"a - 9223372036854775808", 4}, {"'-'9223372036854775808", 3}, {"[9223372036854775808]", 1}, {"+9223372036854775808", 1},
		{"(", 1}, {"()", 1}, {"(a", 2}, {"(a]", 2}, {"(a|b)", 2}, {")", 0}, {"(a))", 3}, {"((a)", 4}, {"((a) b)", 5}, {"((a)b)", 4}, {"((a)-)", 5}, {"(((a)-b)c)", 8}, {"((a),)", 5}, {"(a.)", 2}, {"((", 2}, {"(()", 2}, {"((a.", 3}, {"((a)[", 4},
		{"[", 1}, {"]", 0}, {"[a", 2}, {"[a,]", 3}, {"[,a]", 1}, {"[|a]", 1}, {"[a|]", 3}, {"[a|b,c]", 4}, {"[a|b|c]", 4}, {"[a)", 2}, {"[a b]", 3}, {"[a:-b]", 2}, {"[a|b:-c]", 4}, {"[a|", 3}, {"[a|b", 4}, {"[:-a]", 3}, {"[a|:-b]", 5}, {"[a;b]", 2}, {"[a,b;c]", 4},
		{"{", 1}, {"}", 0}, {"{a", 2}, {"{a]", 2}, {"{a b}", 3}, {"{a|b}", 2}, {"{,}", 1},
		{"|", 0}, {",", 0}, {",a", 0}, {"a,", 2}, {"a|b", 1}, {"a=", 2}, {"=a", 1}, {"= a", 2}, {"a==", 3}, {"a= =b", 4}, {"- '='", 5}, {"a=b=c", 3}, {"a = b = c", 6}, {"a:-b:-c", 4}, {":-a:-b", 3}, {":- :- a", 6}, {"a:- :-b", 6}, {"a-->b:-c", 5}, {"a**b**c", 4}, {"a=-1", 1}, {"\\-1", 2}, {"a--1", 1}, {"-/**/1", 5}, {"a ',' b", 2},
		{"f(:- a)", 5}, {"f(a:-b)", 3}, {"f(a;b)", 3}, {"f(a->b)", 3}, {"- a= :-b", 7}, {"-(a", 3}, {"-(", 2}, {"- (", 3}, {"- [", 3}, {"-(a b)", 4}, {"- )", 2}, {"f(- )(", 5}, {"\\+a=b=c", 5}, {"a= \\+b", 5}, {"- \\+a", 4}, {"a.b", 1}, {"a.(b)", 1}, {"foo bar", 4},
	} {
		stops(t, l.s, text.Default(), fault(api.ErrSyntax, l.at))
		if tokens, _ := text.Tokens(l.s); slices.ContainsFunc(tokens, func(t api.Token) bool { return t.Kind == api.TokEnd }) {
			continue
		}
		// In a sentence the end takes the place of the text's.
		want := fault(api.ErrSyntax, l.at)
		if l.at == len(l.s) {
			want.At++
		}
		if got, f := text.Read(l.s+"\n.", text.Default()); f != want || len(got) != 0 {
			t.Errorf("%q, and an end: %s, %s, not %s", l.s, showSentences(got), showFault(f), showFault(want))
		}
	}
}

func TestFaultsInOrder(t *testing.T) {
	for _, ops := range badOps() {
		for _, s := range []string{"", "a", "a \"", "f(", "a b"} {
			stops(t, s, ops, fault(api.ErrOp, 0))
			if got, f := text.Read(s, ops); f != fault(api.ErrOp, 0) || len(got) != 0 {
				t.Errorf("%q with %v: %s, %s", s, ops, showSentences(got), showFault(f))
			}
		}
	}
	for _, l := range []struct {
		s    string
		want api.Fault
	}{
		{"a b \"", fault(api.ErrToken, 4)}, {") 'a", fault(api.ErrToken, 2)}, {"f(" + strings.Repeat("a,", 60) + "a) `", fault(api.ErrToken, 125)}, {"a b c", fault(api.ErrSyntax, 2)}, {"a. b c. `", fault(api.ErrToken, 8)}, {"9223372036854775809 b", fault(api.ErrToken, 0)},
	} {
		stops(t, l.s, text.Default(), l.want)
		if got, f := text.Read(l.s+" .", text.Default()); f != l.want || len(got) != 0 {
			t.Errorf("%q: %s, %s", l.s, showSentences(got), showFault(f))
		}
	}
}

// args are so many, with something ahead and behind.
func args(ahead string, n int, behind string) string {
	return ahead + strings.Repeat("a,", n-1) + "a" + behind
}

func TestMaxArity(t *testing.T) {
	const most = api.MaxArity
	ops := text.Default()
	for _, l := range []struct {
		s    string
		want api.Fault
	}{
		{args("f(", most, ")"), api.Fault{}}, {args("f(", most+1, ")"), fault(api.ErrLarge, 0)}, {args("f(", 10*most, ")"), fault(api.ErrLarge, 0)}, {args("- 'g h'(", most+1, ")"), fault(api.ErrLarge, 2)}, {args("a = -(", most+1, ")"), fault(api.ErrLarge, 4)},
		// As soon as the last bracket was read: not earlier, and not later.
		{args("f(", most+1, ""), fault(api.ErrSyntax, 2+2*most+1)}, {args("f(", most+1, ",)"), fault(api.ErrSyntax, 2+2*most+2)}, {args("f(", most+1, " b)"), fault(api.ErrSyntax, 2+2*most+2)}, {args("f(", most+1, ") b"), fault(api.ErrLarge, 0)}, {args("f(", most+1, ")]"), fault(api.ErrLarge, 0)},
		{args("g(f(", most+1, "),)"), fault(api.ErrLarge, 2)}, {args("f(a b,", most+1, ")"), fault(api.ErrSyntax, 4)}, {args("f(", most, "") + args(",g(", most+1, "))"), fault(api.ErrLarge, 2+2*most)},
		// A list has as many as there are.
		{args("[", 10*most, "]"), api.Fault{}}, {args("f((", 10*most, "))"), api.Fault{}},
	} {
		_, f := text.ReadTerm(l.s, ops)
		if f != l.want {
			t.Errorf("%q: %s, not %s", l.s, showFault(f), showFault(l.want))
		}
		if l.want.Code == api.ErrLarge {
			stops(t, l.s, ops, l.want)
			stops(t, "   "+l.s, ops, fault(api.ErrLarge, l.want.At+3))
		}
	}
	got, _ := text.ReadTerm(args("f(", most, ")"), ops)
	if got.Term.Kind != api.Comp || len(got.Term.Args) != most {
		t.Error(show(got.Term))
	}
}

func TestVariables(t *testing.T) {
	for _, l := range []struct {
		s     string
		want  api.Term
		names []string
		at    int
	}{
		{"a", a("a"), nil, 0}, {"X", v(0), []string{"X"}, 0}, {" \n_", v(0), []string{"_"}, 2}, {"%\n  f(Y,X,Y)", c("f", v(0), v(1), v(0)), []string{"Y", "X"}, 4},
		{"f(_,_,_)", c("f", v(0), v(1), v(2)), []string{"_", "_", "_"}, 0}, {"f(X,_,X,_,Y,_Z,_Z)", c("f", v(0), v(1), v(0), v(2), v(3), v(4), v(4)), []string{"X", "_", "_", "Y", "_Z"}, 0},
		{"X+_+X+_", c("+", c("+", c("+", v(0), v(1)), v(0)), v(2)), []string{"X", "_", "_"}, 0}, {"[B,A|B]", list(v(0), v(0), v(1)), []string{"B", "A"}, 0}, {"X-x-'X'", c("-", c("-", v(0), a("x")), a("X")), []string{"X"}, 0}, {"A-a:-B", c(":-", c("-", v(0), a("a")), v(1)), []string{"A", "B"}, 0},
		{"((X))", v(0), []string{"X"}, 0}, {" - X", c("-", v(0)), []string{"X"}, 1}, {"__+__", c("+", v(0), v(0)), []string{"__"}, 0}, {"_0+_1+_0", c("+", c("+", v(0), v(1)), v(0)), []string{"_0", "_1"}, 0}, {"_5", v(0), []string{"_5"}, 0}, {"{X,XX,X}", c("{}", c(",", v(0), c(",", v(1), v(0)))), []string{"X", "XX"}, 0},
	} {
		got, f := text.ReadTerm(l.s, text.Default())
		if f != (api.Fault{}) || !same(got.Term, l.want) || !slices.Equal(got.Names, l.names) || got.At != l.at {
			t.Errorf("%q: %s, %s", l.s, showSentence(got), showFault(f))
		}
	}
	s := ""
	for k := range 40 {
		s += ",V" + strconv.Itoa(k) + ",V" + strconv.Itoa(k/2) + ",_"
	}
	got, f := text.ReadTerm("["+s[1:]+"]", text.Default())
	if f != (api.Fault{}) || len(got.Names) != 80 || got.Names[2] != "V1" || got.Names[1] != "_" || got.Names[78] != "V39" {
		t.Errorf("%s, %s", showSentence(got), showFault(f))
	}
}

func TestRead(t *testing.T) {
	x, y := a("a"), a("b")
	for _, l := range []struct {
		s    string
		want []api.Sentence
	}{
		{"", nil}, {" % a.\n/* b. */", nil},
		{"a.", []api.Sentence{{Term: x}}}, {" a .", []api.Sentence{{Term: x, At: 1}}}, {"a. b.", []api.Sentence{{Term: x}, {Term: y, At: 3}}}, {"a.%\nb.\n", []api.Sentence{{Term: x}, {Term: y, At: 4}}},
		{"p(X,Y,X). q(_,_Z). % end\n", []api.Sentence{{Term: c("p", v(0), v(1), v(0)), Names: []string{"X", "Y"}}, {Term: c("q", v(0), v(1)), Names: []string{"_", "_Z"}, At: 10}}},
		{"X. X. _.\tf(Y,X).", []api.Sentence{{Term: v(0), Names: []string{"X"}}, {Term: v(0), Names: []string{"X"}, At: 3}, {Term: v(0), Names: []string{"_"}, At: 6}, {Term: c("f", v(0), v(1)), Names: []string{"Y", "X"}, At: 9}}},
		{"a:-b. :-a. -1. - .\n", []api.Sentence{{Term: c(":-", x, y)}, {Term: c(":-", x), At: 6}, {Term: i(-1), At: 11}, {Term: a("-"), At: 15}}}, {"(a). [b]. {a}.", []api.Sentence{{Term: x}, {Term: list(a("[]"), y), At: 5}, {Term: c("{}", x), At: 10}}},
	} {
		got, f := text.Read(l.s, text.Default())
		if f != (api.Fault{}) || showSentences(got) != showSentences(l.want) {
			t.Errorf("%q: %s, %s", l.s, showSentences(got), showFault(f))
		}
	}
	for _, l := range []struct {
		s  string
		at int
	}{
		{".", 0}, {"a", 1}, {"a. b", 4}, {"p. q", 4}, {"a. b ", 5}, {"a b.", 2}, {"a. .", 3}, {"a. b c. d", 5}, {"f(a. b).", 3}, {"a:- .", 4}, {"a.b.", 1}, {"a.. b.", 1}, {"a=b=c. d.", 3}, {"a. )", 3}, {"[a. ]", 2}, {"a. 9223372036854775808.", 3}, {"X. (Y", 5}, {"-.", 2},
	} {
		if got, f := text.Read(l.s, text.Default()); f != fault(api.ErrSyntax, l.at) || len(got) != 0 {
			t.Errorf("%q: %s, %s, not at %d", l.s, showSentences(got), showFault(f), l.at)
		}
	}
	s := "a. " + args("f(", api.MaxArity+1, "). b b.")
	if got, f := text.Read(s, text.Default()); f != fault(api.ErrLarge, 3) || len(got) != 0 {
		t.Errorf("%q: %s, %s", s, showSentences(got), showFault(f))
	}
}

// prios of an operator, as P11 has them: its own, and the most of what stands to its left and right.
func prios(o api.Op) (own, left, right int) {
	switch o.Type {
	case api.XFX, api.FX:
		return o.Prio, o.Prio - 1, o.Prio - 1
	case api.XFY, api.FY:
		return o.Prio, o.Prio - 1, o.Prio
	}
	return o.Prio, o.Prio, o.Prio - 1
}

// TestTwoInfix: what `a o b p c` is, of all types and of priorities that lie ahead of each other, or behind, or are one.
func TestTwoInfix(t *testing.T) {
	x, y, z := a("a"), a("b"), a("c")
	for kind := range 9 {
		for _, p := range [][2]int{{1, 1}, {1, 2}, {2, 1}, {1, 3}, {3, 1}, {700, 700}, {700, 701}, {701, 700}, {1200, 1200}, {1199, 1200}, {1200, 1199}, {1, 1200}, {1200, 1}} {
			o, q := op("o", p[0], 1+kind/3), op("p", p[1], 1+kind%3)
			ops := []api.Op{o, q}
			own, _, right := prios(o)
			own2, left2, _ := prios(q)
			switch s := "a o b p c"; {
			case own2 <= right:
				reads(t, s, ops, c("o", x, c("p", y, z)))
			case own <= left2:
				reads(t, s, ops, c("p", c("o", x, y), z))
			default:
				stops(t, s, ops, fault(api.ErrSyntax, 6))
			}
			reads(t, "(a o b)p c", ops, c("p", c("o", x, y), z))
			reads(t, "a o(b p c)", ops, c("o", x, c("p", y, z)))
		}
	}
}

// TestPrefixAndInfix: what `p a o b` and `a o p b` are.
func TestPrefixAndInfix(t *testing.T) {
	x, y := a("a"), a("b")
	for kind := range 6 {
		for _, l := range [][2]int{{1, 1}, {1, 2}, {2, 1}, {1, 3}, {3, 1}, {700, 700}, {700, 701}, {701, 700}, {1200, 1200}, {1199, 1200}, {1200, 1199}, {1, 1200}, {1200, 1}} {
			p, o := op("p", l[0], 4+kind/3), op("o", l[1], 1+kind%3)
			ops := []api.Op{p, o}
			own, _, right := prios(p)
			own2, left2, right2 := prios(o)
			switch s := "p a o b"; {
			case own2 <= right:
				reads(t, s, ops, c("p", c("o", x, y)))
			case own <= left2:
				reads(t, s, ops, c("o", c("p", x), y))
			default:
				stops(t, s, ops, fault(api.ErrSyntax, 4))
			}
			if own <= right2 {
				reads(t, "a o p b", ops, c("o", x, c("p", y)))
			} else {
				// It is an atom there, which nothing may follow.
				stops(t, "a o p b", ops, fault(api.ErrSyntax, 6))
				reads(t, "a o p", ops, c("o", x, a("p")))
			}
			reads(t, "p(a)o p(b)", ops, c("o", c("p", x), c("p", y)))
			reads(t, "(p a)o(p b)", ops, c("o", c("p", x), c("p", y)))
			reads(t, "p (a o b)", ops, c("p", c("o", x, y)))
		}
	}
}

// TestTwoPrefix: what `p q a` is.
func TestTwoPrefix(t *testing.T) {
	for kind := range 4 {
		for _, l := range [][2]int{{1, 1}, {1, 2}, {2, 1}, {1, 3}, {3, 1}, {700, 700}, {1200, 1200}, {1199, 1200}, {1200, 1199}} {
			p, q := op("p", l[0], 4+kind/2), op("q", l[1], 4+kind%2)
			ops := []api.Op{p, q}
			_, _, right := prios(p)
			if q.Prio <= right {
				reads(t, "p q a", ops, c("p", c("q", a("a"))))
			} else {
				stops(t, "p q a", ops, fault(api.ErrSyntax, 4))
			}
			reads(t, "p q", ops, c("p", a("q")))
			reads(t, "p q(a)", ops, c("p", c("q", a("a"))))
		}
	}
}

// TestComma: it is XFY with 1000, whatever operators there are, and stands between Args and in lists too.
func TestComma(t *testing.T) {
	x, y, z := a("a"), a("b"), a("c")
	for kind := range 3 {
		for _, prio := range []int{999, 1000, 1001} {
			o := op("o", prio, 1+kind)
			ops := []api.Op{o}
			own, left, right := prios(o)
			switch s := "a,b o c"; {
			case own <= 1000:
				reads(t, s, ops, c(",", x, c("o", y, z)))
			case 1000 <= left:
				reads(t, s, ops, c("o", c(",", x, y), z))
			default:
				stops(t, s, ops, fault(api.ErrSyntax, 4))
			}
			switch s := "a o b,c"; {
			case 1000 <= right:
				reads(t, s, ops, c("o", x, c(",", y, z)))
			case own <= 999:
				reads(t, s, ops, c(",", c("o", x, y), z))
			default:
				stops(t, s, ops, fault(api.ErrSyntax, 5))
			}
			if own <= 999 {
				reads(t, "f(a o b,c)", ops, c("f", c("o", x, y), z))
				reads(t, "[a o b|b o c]", ops, list(c("o", y, z), c("o", x, y)))
			} else {
				stops(t, "f(a o b,c)", ops, fault(api.ErrSyntax, 4))
				stops(t, "[a o b,c]", ops, fault(api.ErrSyntax, 3))
				stops(t, "[a|b o c]", ops, fault(api.ErrSyntax, 5))
				stops(t, "[a|b,b o c]", ops, fault(api.ErrSyntax, 4))
			}
			reads(t, "{a o b}", ops, c("{}", c("o", x, y)))
			reads(t, "(a o b)", ops, c("o", x, y))
		}
		for _, prio := range []int{999, 1000} {
			p := []api.Op{op("p", prio, 4+kind%2)}
			if prio == 999 {
				reads(t, "f(p a,b)", p, c("f", c("p", x), y))
				reads(t, "[p a|p b]", p, list(c("p", y), c("p", x)))
			} else {
				stops(t, "f(p a,b)", p, fault(api.ErrSyntax, 4))
				stops(t, "[p a]", p, fault(api.ErrSyntax, 3))
				stops(t, "[a|p b]", p, fault(api.ErrSyntax, 5))
				reads(t, "{p a}", p, c("{}", c("p", x)))
			}
		}
	}
}

// TestOddOperators: without any, and with names that are written oddly.
func TestOddOperators(t *testing.T) {
	x, y := a("a"), a("b")
	reads(t, "f(-,- ,[=|:-])", nil, c("f", a("-"), a("-"), list(a(":-"), a("="))))
	reads(t, "-1", nil, i(-1))
	reads(t, "-(a)", nil, c("-", x))
	reads(t, "a,b", nil, c(",", x, y))
	stops(t, "-a", nil, fault(api.ErrSyntax, 1))
	stops(t, "- 1", nil, fault(api.ErrSyntax, 2))
	stops(t, "a - b", nil, fault(api.ErrSyntax, 2))
	for _, name := range []string{"", "a b", "(", ")", "[", ".", "X", "1", "%", "'", "/*", "\n", "\x00", "\xff", "é", "!", ";"} {
		ops := []api.Op{op(name, 700, api.XFX), op(name, 200, api.FY)}
		written, err := text.Print(a(name), nil)
		if err != api.OK {
			t.Fatal(err)
		}
		reads(t, "a "+written+" b", ops, c(name, x, y))
		reads(t, written+" a", ops, c(name, x))
		reads(t, "a "+written+" "+written+" b", ops, c(name, x, c(name, y)))
		reads(t, written+"(a)", ops, c(name, x))
		reads(t, written, ops, a(name))
	}
	// A - that is infix alone can begin a term only with a number directly behind it, or a bracket.
	ops := []api.Op{op("-", 500, api.YFX), op("p", 200, api.FY)}
	reads(t, "p -1", ops, c("p", i(-1)))
	reads(t, "p - 1", ops, c("-", a("p"), i(1)))
	reads(t, "p '-'1", ops, c("-", a("p"), i(1)))
	reads(t, "p -(1)", ops, c("p", c("-", i(1))))
	reads(t, "p - (1)", ops, c("-", a("p"), i(1)))
	reads(t, "p -a", ops, c("-", a("p"), x))
	reads(t, "p -X", ops, c("-", a("p"), v(0)))
	// An operator whose name is that of brackets cannot be, but one named like half of them is only met between quotes.
	stops(t, "a [ b", []api.Op{op("[", 700, api.XFX)}, fault(api.ErrSyntax, 2))
	stops(t, "a . b", []api.Op{op(".", 700, api.XFX)}, fault(api.ErrSyntax, 2))
	reads(t, "a.b", []api.Op{op(".", 700, api.XFX)}, list(y, x))
	stops(t, "a X b", []api.Op{op("X", 700, api.XFX)}, fault(api.ErrSyntax, 2))
}

// layout between tokens.
func (x *chance) layout() string {
	return pick(x, []string{"", "", " ", "\n", "/* ( */", "% )\n", "\t\r", "/***/ "})
}

// byBytes writes a name between quotes, each byte by its number.
func byBytes(name string) string {
	s := "'"
	for _, b := range []byte(name) {
		s += `\x` + strconv.FormatInt(256+int64(b), 16)[1:]
	}
	return s + "'"
}

// plainly writes a term without operators, with layout wherever it may be.
func (x *chance) plainly(t api.Term) string {
	switch t.Kind {
	case api.Var:
		return x.layout() + "V" + strconv.FormatInt(t.N, 10) + x.layout()
	case api.Int:
		return x.layout() + strconv.FormatInt(t.N, 10) + x.layout()
	}
	s := x.layout() + byBytes(t.Name)
	for k, arg := range t.Args {
		s += []string{"(", ","}[min(k, 1)] + x.plainly(arg)
	}
	if t.Kind == api.Comp {
		s += ")"
	}
	return s + x.layout()
}

// TestPlainly: what is written without operators is read with any as it was written.
func TestPlainly(t *testing.T) {
	x := chance(5)
	for range 2000 {
		u := x.term(4)
		if !reads(t, x.plainly(u), x.ops(), renamed(u)) {
			return
		}
	}
}

// bracketed writes a term with its operators, each operand in brackets.
func (x *chance) bracketed(t api.Term, ops []api.Op) string {
	is := func(low, high int) bool {
		return slices.ContainsFunc(ops, func(o api.Op) bool { return o.Name == t.Name && o.Type >= low && o.Type <= high })
	}
	in := func(arg api.Term) string { return x.layout() + " (" + x.bracketed(arg, ops) + ")" + x.layout() }
	name := x.plainly(a(t.Name))
	switch {
	case t.Kind != api.Comp:
		return x.plainly(t)
	case len(t.Args) == 1 && is(api.FY, api.FX):
		return name + in(t.Args[0])
	case len(t.Args) == 2 && is(api.XFX, api.YFX):
		return in(t.Args[0]) + name + in(t.Args[1])
	case len(t.Args) == 2 && t.Name == ",":
		return in(t.Args[0]) + "," + in(t.Args[1])
	case len(t.Args) == 2 && t.Name == ".":
		return "[" + in(t.Args[0]) + "|" + in(t.Args[1]) + "]"
	case len(t.Args) == 1 && t.Name == "{}":
		return "{" + in(t.Args[0]) + "}"
	}
	s := byBytes(t.Name)
	for k, arg := range t.Args {
		s += []string{"(", ","}[min(k, 1)] + in(arg)
	}
	return s + ")"
}

// TestBracketed: with brackets about all of them operands are what they are, whatever priorities there are.
func TestBracketed(t *testing.T) {
	x := chance(6)
	for range 2000 {
		u, ops := x.term(4), x.ops()
		if !reads(t, x.bracketed(u, ops), ops, renamed(u)) {
			return
		}
	}
}

// TestCut: nothing behind the token at which reading stops is looked at; and up to that token it could go on.
func TestCut(t *testing.T) {
	pieces := []string{"a", "f(", "(", " (", ")", "[", "]", "{", "}", ",", "|", "-", " - ", "1", "X", "=", " = ", ":-", " :- ", "'='", "\\+ ", "9223372036854775808", " . ", "b", "^", ";", " "}
	x := chance(7)
	stopped := 0
	for range 30000 {
		s := ""
		for range 1 + x.below(10) {
			s += pick(&x, pieces)
		}
		tokens, f := text.Tokens(s)
		if f.Code != api.OK {
			continue
		}
		_, f = text.ReadTerm(s, text.Default())
		if f.Code == api.OK || f.At == len(s) {
			continue
		}
		k := slices.IndexFunc(tokens, func(t api.Token) bool { return t.At == f.At })
		if f.Code != api.ErrSyntax || k < 0 {
			t.Fatalf("%q: %s", s, showFault(f))
		}
		stopped++
		if tokens[k].Text != "." {
			stops(t, s[:tokens[k].To], text.Default(), f)
		}
		ahead := s[:f.At]
		if _, g := text.ReadTerm(ahead, text.Default()); g.Code != api.OK && g != fault(api.ErrSyntax, len(ahead)) {
			t.Fatalf("%q stops at %d, but %q at %d", s, f.At, ahead, g.At)
		}
	}
	if stopped < 10000 {
		t.Error(stopped)
	}
}
