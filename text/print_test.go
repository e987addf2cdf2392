package text_test

import (
	"slices"
	"strconv"
	"strings"
	"testing"

	"hornbook/api"
	"hornbook/text"
)

func TestPrintNames(t *testing.T) {
	for _, l := range [][2]string{
		{"a", "a"}, {"aB_0", "aB_0"}, {"z", "z"}, {"!", "!"}, {";", ";"}, {"+", "+"}, {`+-*/\^<>=~:.?@#&$`, `+-*/\^<>=~:.?@#&$`}, {"..", ".."}, {".a", `'.a'`}, {"/", "/"}, {"*/", "*/"}, {"+/*", "+/*"}, {"/ *", "'/ *'"},
		{"", "''"}, {".", "'.'"}, {"/*", "'/*'"}, {"/**/", "'/**/'"}, {"/*a", "'/*a'"}, {"A", "'A'"}, {"_", "'_'"}, {"_a", "'_a'"}, {"0", "'0'"}, {"1a", "'1a'"}, {"-1", "'-1'"}, {"!!", "'!!'"}, {";;", "';;'"}, {"a b", "'a b'"}, {" a", "' a'"}, {"a-b", "'a-b'"}, {"a+", "'a+'"}, {"+a", "'+a'"}, {"!a", "'!a'"},
		{",", "','"}, {"|", "'|'"}, {"(", "'('"}, {"()", "'()'"}, {"[", "'['"}, {"{", "'{'"}, {"[ ]", "'[ ]'"}, {"%", "'%'"}, {"\"", "'\"'"}, {"`", "'`'"}, {"~", "~"},
		{"'", `'\''`}, {"it's", `'it\'s'`}, {`\`, `\`}, {`a\`, `'a\\'`}, {`\'`, `'\\\''`}, {"\n", `'\n'`}, {"\t", `'\t'`}, {"a\nb\tc", `'a\nb\tc'`}, {"\r", `'\x0d'`}, {"\x00\x1f\x7f\x80\xff", `'\x00\x1f\x7f\x80\xff'`}, {"é", `'\xc3\xa9'`}, {"aé", `'a\xc3\xa9'`}, {" ~", "' ~'"}, {"a\x0b", `'a\x0b'`}, {"A\xAB", `'A\xab'`},
		{strings.Repeat("x", api.MaxName), strings.Repeat("x", api.MaxName)}, {strings.Repeat("+", api.MaxName), strings.Repeat("+", api.MaxName)}, {strings.Repeat("\xfe", api.MaxName), "'" + strings.Repeat(`\xfe`, api.MaxName) + "'"},
	} {
		prints(t, a(l[0]), text.Default(), l[1])
		prints(t, c(l[0], v(1), i(2), i(3)), text.Default(), l[1]+"(_1,2,3)")
		prints(t, c("f", a(l[0])), nil, "f("+l[1]+")")
		reads(t, l[1], text.Default(), a(l[0]))
	}
	for _, name := range []string{"[]", "{}"} {
		prints(t, a(name), nil, name)
		prints(t, c("f", a(name), a(name)), nil, "f("+name+","+name+")")
		prints(t, c(name, i(1), i(2)), nil, "'"+name+"'(1,2)")
		prints(t, c("-", a(name), a(name)), text.Default(), name+" - "+name)
		prints(t, c("-", a(name)), text.Default(), "- "+name)
	}
	prints(t, c("[]", i(1)), nil, "'[]'(1)")
	for b := range 256 {
		name := "A" + string([]byte{byte(b)})
		want := "'A" + string([]byte{byte(b)}) + "'"
		switch {
		case b == '\'' || b == '\\':
			want = `'A\` + string([]byte{byte(b)}) + "'"
		case b == '\n':
			want = `'A\n'`
		case b == '\t':
			want = `'A\t'`
		case b < 32 || b > 126:
			want = `'A\x` + strconv.FormatInt(int64(b)+256, 16)[1:] + "'"
		}
		prints(t, a(name), nil, want)
		reads(t, want, nil, a(name))
	}
}

func TestPrintNumbers(t *testing.T) {
	for _, l := range []struct {
		x    api.Term
		want string
	}{
		{v(0), "_0"}, {v(7), "_7"}, {v(api.MaxVar), "_1099511627776"}, {i(0), "0"}, {i(42), "42"}, {i(-1), "-1"}, {i(1<<63 - 1), "9223372036854775807"}, {i(-1 << 63), "-9223372036854775808"},
		{c("-", i(-1)), "- -1"}, {c("-", i(1)), "- 1"}, {c("-", c("-", i(1))), "- - 1"}, {c("-", i(1), i(-1)), "1 - -1"}, {c("-", i(-1), i(1)), "-1 - 1"}, {c("^", i(-1), i(-2)), "-1 ^ -2"}, {c("f", i(-1), i(1)), "f(-1,1)"}, {list(i(-2), i(-1)), "[-1|-2]"}, {c("{}", i(-1)), "{-1}"}, {c(",", i(-1), i(-1)), "-1,-1"},
	} {
		prints(t, l.x, text.Default(), l.want)
	}
}

func TestPrintCompounds(t *testing.T) {
	x, y, z, none := a("a"), a("b"), a("c"), a("[]")
	for _, l := range []struct {
		x    api.Term
		want string
	}{
		{c("f", x), "f(a)"}, {c("f", x, y, z), "f(a,b,c)"}, {c("f", c("g", c("h", v(3)))), "f(g(h(_3)))"}, {c("a b", x), "'a b'(a)"}, {c("", x), "''(a)"}, {c(".", x), "'.'(a)"}, {c(".", x, y, z), "'.'(a,b,c)"}, {c(",", x), "','(a)"}, {c(",", x, y, z), "','(a,b,c)"}, {c("|", x, y), "'|'(a,b)"}, {c("{}", x, y), "'{}'(a,b)"}, {c("=", x), "=(a)"}, {c("-", x, y, z), "-(a,b,c)"}, {c("\\+", x, y), "\\+(a,b)"}, {c(";", x), ";(a)"}, {c("!", x), "!(a)"},
		{c("f", c(",", x, y)), "f((a,b))"}, {c("f", c(":-", x, y), c(":-", x)), "f((a :- b),(:- a))"}, {c("f", c("=", x, y), c("\\+", x)), "f(a = b,\\+ a)"}, {c("f", c(";", x, y), c("->", x, y)), "f((a ; b),(a -> b))"}, {c("f", a(":-"), a(","), a("-")), "f(:-,',',-)"},
		{list(none, x), "[a]"}, {list(none, x, y, z), "[a,b,c]"}, {list(v(0), x, y), "[a,b|_0]"}, {list(y, x), "[a|b]"}, {list(none, none), "[[]]"}, {list(none, list(none, x), none), "[[a],[]]"}, {list(list(y, x), z), "[c,a|b]"}, {list(none, c(",", x, y)), "[(a,b)]"}, {list(none, x, c(",", y, z), c(":-", x)), "[a,(b,c),(:- a)]"}, {list(c("=", x, y), x, c("=", y, z)), "[a,b = c|a = b]"}, {list(c(",", x, y), c(":-", x, y)), "[(a :- b)|(a,b)]"}, {list(c("=", x, y), c("=", y, x), c("\\+", x)), "[b = a,\\+ a|a = b]"}, {list(a("-"), a("="), a(":-")), "[=,:-|-]"}, {list(a("{}"), x), "[a|{}]"}, {list(c(".", x), y), "[b|'.'(a)]"}, {list(c("[]", x), y), "[b|'[]'(a)]"}, {list(i(0), y), "[b|0]"},
		{c("{}", x), "{a}"}, {c("{}", c(",", x, y)), "{a,b}"}, {c("{}", c(":-", x, y)), "{a :- b}"}, {c("{}", a("-")), "{-}"}, {c("{}", c(":-", x)), "{:- a}"}, {c("{}", c("{}", a("{}"))), "{{{}}}"}, {c("{}", list(none, x)), "{[a]}"}, {c("-", c("{}", c(":-", x, y)), list(none, x)), "{a :- b} - [a]"},
		{c(",", x, y), "a,b"}, {c(",", x, c(",", y, z)), "a,b,c"}, {c(",", c(",", x, y), z), "(a,b),c"}, {c(",", c(":-", x, y), c(";", x, y)), "(a :- b),(a ; b)"}, {c(",", c("=", x, y), c("\\+", x)), "a = b,\\+ a"},
		{c("-", x, y), "a - b"}, {c("-", c("-", x, y), z), "a - b - c"}, {c("-", x, c("-", y, z)), "a - (b - c)"}, {c("^", x, c("^", y, z)), "a ^ b ^ c"}, {c("^", c("^", x, y), z), "(a ^ b) ^ c"}, {c("=", c("=", x, y), z), "(a = b) = c"}, {c("=", x, c("=", y, z)), "a = (b = c)"}, {c("*", c("+", x, y), z), "(a + b) * c"}, {c("+", c("*", x, y), z), "a * b + c"}, {c("+", x, c("*", y, z)), "a + b * c"}, {c("*", x, c("+", y, z)), "a * (b + c)"}, {c("mod", x, y), "a mod b"}, {c("is", v(0), c("-", i(1), y)), "_0 is 1 - b"}, {c("+", c("-", x, y), z), "a - b + c"}, {c("-", c("xor", x, y), z), "a xor b - c"},
		{c(":-", x, c(";", c(",", y, z), c("->", x, y))), "a :- b,c ; a -> b"}, {c(";", c(";", x, y), z), "(a ; b) ; c"}, {c(":-", c(":-", x, y), c(":-", y)), "(a :- b) :- (:- b)"}, {c(":-", c(",", x, y)), ":- a,b"}, {c(":-", c(":-", x)), ":- (:- a)"}, {c(":-", c(";", x, y)), ":- a ; b"}, {c("-->", x, c(",", y, z)), "a --> b,c"},
		{c("-", x), "- a"}, {c("-", c("-", x)), "- - a"}, {c("-", c("-", x, y)), "- (a - b)"}, {c("-", c(",", x, y)), "- (a,b)"}, {c("\\+", c(",", x, y)), "\\+ (a,b)"}, {c("\\+", c("=", x, y)), "\\+ a = b"}, {c("\\+", c("\\+", x)), "\\+ \\+ a"}, {c("^", c("-", x), y), "(- a) ^ b"}, {c("-", c("^", x, y)), "- a ^ b"}, {c("^", x, c("-", y)), "a ^ - b"}, {c("**", x, c("-", y)), "a ** (- b)"}, {c("-", c("-", x), y), "- a - b"}, {c("=", c("\\+", x), y), "(\\+ a) = b"}, {c("=", x, c("\\+", y)), "a = (\\+ b)"}, {c("\\", c("-", i(1))), "\\ - 1"}, {c("-", c("f", x)), "- f(a)"}, {c("-", c("=", x)), "- =(a)"},
		// Operators that stand for themselves beside others.
		{a("-"), "-"}, {a(":-"), ":-"}, {c("=", a("-"), a("-")), "(-) = (-)"}, {c("=", x, a("\\+")), "a = (\\+)"}, {c("-", a("-")), "- (-)"}, {c("-", a("=")), "- (=)"}, {c(":-", a(":-")), ":- (:-)"}, {c("mod", a("mod"), a("is")), "(mod) mod (is)"}, {c(",", a("-"), a(";")), "(-),(;)"}, {c(",", x, c(",", a("->"), y)), "a,(->),b"}, {c(",", a(","), a("|")), "',','|'"}, {c("=", a(","), a(",")), "',' = ','"}, {c("-", a(",")), "- ','"}, {c("=", a("."), a("!")), "'.' = !"}, {c("=", c("f", a("-")), list(none, a("-"))), "f(-) = [-]"}, {c("=", c("{}", a("-")), x), "{-} = a"}, {c("-", c("-", a("-"), x), a("-")), "(-) - a - (-)"},
	} {
		if prints(t, l.x, text.Default(), l.want) {
			reads(t, l.want, text.Default(), renamed(l.x))
		}
	}
}

// TestPrintWithOperators: the name of an operator may need quotes, and priorities are told by type.
func TestPrintWithOperators(t *testing.T) {
	x, y, z := a("a"), a("b"), a("c")
	ops := []api.Op{
		op("x", 500, api.XFX), op("r", 500, api.XFY), op("l", 500, api.YFX), op("k", 500, api.YFX), op("j", 499, api.YFX), op("s", 499, api.XFY), op("p", 500, api.FY), op("q", 500, api.FX), op("o", 499, api.FY),
		op("a b", 700, api.XFX), op("A", 200, api.FY), op("", 300, api.XFY), op(".", 400, api.YFX), op("/*", 400, api.FX), op("(", 450, api.XFX),
	}
	for _, l := range []struct {
		x    api.Term
		want string
	}{
		// Of one priority: the left of a YFX one is in brackets, but if it is a YFX one's.
		{c("l", c("l", x, y), z), "a l b l c"}, {c("l", c("k", x, y), z), "a k b l c"}, {c("l", c("x", x, y), z), "(a x b) l c"}, {c("l", c("r", x, y), z), "(a r b) l c"}, {c("l", c("p", x), z), "(p a) l c"}, {c("l", c("q", x), z), "(q a) l c"}, {c("l", c("o", x), z), "o a l c"}, {c("l", c("s", x, y), z), "a s b l c"}, {c("l", c("j", x, y), z), "a j b l c"}, {c("j", c("l", x, y), z), "(a l b) j c"},
		{c("l", x, c("l", y, z)), "a l (b l c)"}, {c("l", x, c("r", y, z)), "a l (b r c)"}, {c("l", x, c("p", z)), "a l (p c)"}, {c("l", x, c("o", z)), "a l o c"}, {c("l", x, c("s", y, z)), "a l b s c"},
		{c("r", c("l", x, y), z), "(a l b) r c"}, {c("r", c("r", x, y), z), "(a r b) r c"}, {c("r", x, c("r", y, z)), "a r b r c"}, {c("r", x, c("l", y, z)), "a r b l c"}, {c("r", x, c("x", y, z)), "a r b x c"}, {c("r", x, c("p", y)), "a r p b"}, {c("r", x, c("q", y)), "a r q b"}, {c("r", c("p", x), y), "(p a) r b"}, {c("r", c("o", x), y), "o a r b"},
		{c("x", c("l", x, y), z), "(a l b) x c"}, {c("x", x, c("r", y, z)), "a x (b r c)"}, {c("x", c("j", x, y), c("s", y, z)), "a j b x b s c"},
		{c("p", c("p", x)), "p p a"}, {c("p", c("q", x)), "p q a"}, {c("q", c("p", x)), "q (p a)"}, {c("q", c("q", x)), "q (q a)"}, {c("q", c("o", x)), "q o a"}, {c("p", c("l", x, y)), "p a l b"}, {c("p", c("r", x, y)), "p a r b"}, {c("q", c("l", x, y)), "q (a l b)"}, {c("q", c("j", x, y)), "q a j b"},
		{c("l", c("l", c("r", x, y), z), z), "(a r b) l c l c"}, {c("l", c("j", x, c("o", y)), z), "a j (o b) l c"}, {c("k", c("l", x, c("o", y)), z), "a l o b k c"},
		// Names between quotes.
		{c("a b", x, y), "a 'a b' b"}, {c("A", x), "'A' a"}, {c("A", c("A", x)), "'A' 'A' a"}, {c("", x, c("", y, z)), "a '' b '' c"}, {c("(", x, y), "a '(' b"}, {c("/*", x), "'/*' a"}, {c("(", a("("), a("/*")), "('(') '(' ('/*')"}, {c("A", a("")), "'A' ('')"},
		// A list is one, whatever . is besides.
		{c(".", x, y), "[a|b]"}, {c("l", c(".", x, y), c(".", y, z)), "[a|b] l [b|c]"}, {c(".", x), "'.'(a)"}, {c("l", a("."), x), "('.') l a"}, {c(".", c("l", x, y), a(".")), "[a l b|'.']"},
	} {
		if prints(t, l.x, ops, l.want) {
			reads(t, l.want, ops, renamed(l.x))
		}
	}
	prints(t, c(".", x), []api.Op{op(".", 400, api.FY)}, "'.' a")
	prints(t, c("-", i(1)), []api.Op{op("-", 400, api.XFX)}, "-(1)")
	prints(t, c("-", i(1), i(2)), []api.Op{op("-", 400, api.FX)}, "-(1,2)")
	prints(t, c("p", c("-", i(1))), []api.Op{op("-", 400, api.XFX), op("p", 1, api.FY)}, "p -(1)")
	prints(t, c("f", c("a", x, y), c("b", x, y), c("p", x), c("q", x)), []api.Op{op("a", 999, api.XFX), op("b", 1000, api.XFX), op("p", 999, api.FX), op("q", 1000, api.FY)}, "f((a) a (b),((a) b (b)),p (a),(q (a)))")
	prints(t, c(",", c("a", x, y), c("a", x, y)), []api.Op{op("a", 1000, api.XFX)}, "((a) a b),(a) a b")
	prints(t, c(",", c("a", x, y), c("a", x, y)), []api.Op{op("a", 1001, api.YFX)}, "((a) a b),((a) a b)")
	prints(t, c("a", c(",", x, y), c(",", x, y)), []api.Op{op("a", 1000, api.XFY)}, "((a),b) a (a),b")
	prints(t, c("a", c(",", x, y), c(",", x, y)), []api.Op{op("a", 1000, api.YFX)}, "((a),b) a ((a),b)")
	prints(t, c("a", c(",", y, y), c(",", y, y)), []api.Op{op("a", 1001, api.XFX)}, "b,b a b,b")
	prints(t, c("a", y, c("a", y, z)), []api.Op{op("a", 1, api.XFX)}, "b a (b a c)")
	prints(t, c("a", c("a", y, z), z), []api.Op{op("a", 1, api.YFX)}, "b a c a c")
	prints(t, c("a", c("a", y)), []api.Op{op("a", 1200, api.FY)}, "a a b")
}

// TestPrintedIsRead: what is printed is read as the same term, whatever operators there are.
func TestPrintedIsRead(t *testing.T) {
	x := chance(11)
	for k := range 20000 {
		u, ops := x.term(1+k%6), x.ops()
		s, err := text.Print(u, ops)
		if err != api.OK {
			t.Fatalf("%s: %v", show(u), err)
		}
		if !reads(t, s, ops, renamed(u)) {
			return
		}
	}
}

// TestSmallPrintedIsRead: all terms up to a size, of operators of all types in all orders of priority.
func TestSmallPrintedIsRead(t *testing.T) {
	small := []api.Term{a("o"), a("p"), a("a"), i(-1), i(1), v(0)}
	grown := func(list []api.Term) []api.Term {
		out := slices.Clone(small)
		for _, u := range list {
			out = append(out, c("p", u), c("o", u))
			for _, w := range []api.Term{a("p"), i(-1), c("o", i(1), c("p", a("a"))), c("-", i(1))} {
				out = append(out, c("o", u, w), c("o", w, u), c("q", u, w), c("q", w, u))
			}
		}
		return out
	}
	terms := grown(grown(small))
	for kind := range 27 {
		for _, l := range [][3]int{{1, 1, 1}, {2, 2, 1}, {1, 2, 2}, {2, 1, 2}, {1, 2, 3}, {3, 2, 1}, {2, 3, 1}} {
			ops := []api.Op{op("o", l[0], 1+kind%3), op("q", l[1], 1+kind/3%3), op("p", l[2], 4+kind/9%2), op("-", l[0], 1+kind/9), op("-", l[1], 4+kind%2)}
			for _, u := range terms {
				s, err := text.Print(u, ops)
				if err != api.OK || !reads(t, s, ops, renamed(u)) {
					t.Fatal(s, err)
				}
			}
		}
	}
}

func TestPrintErrors(t *testing.T) {
	for _, u := range nones() {
		for _, ops := range append(badOps(), text.Default(), nil) {
			if s, err := text.Print(u, ops); s != "" || err != api.ErrTerm {
				t.Errorf("%s with %s: %q, %v", show(u), showOps(ops), s, err)
			}
		}
	}
	for _, ops := range badOps() {
		for _, u := range []api.Term{v(0), i(1), a("a"), c("f", a("a")), c("-", i(1), i(2))} {
			if s, err := text.Print(u, ops); s != "" || err != api.ErrOp {
				t.Errorf("%s with %s: %q, %v", show(u), showOps(ops), s, err)
			}
		}
	}
}
