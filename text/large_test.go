package text_test

import (
	"strings"
	"testing"

	"hornbook/api"
	"hornbook/text"
)

const deepest = 1 << 16

// sameDeep goes down by the last Args alone, and holds the others against each other as they are.
func sameDeep(x, y api.Term) bool {
	for {
		if x.Kind != y.Kind || x.N != y.N || x.Name != y.Name || len(x.Args) != len(y.Args) {
			return false
		}
		last := len(x.Args) - 1
		if last < 0 {
			return true
		}
		for k := range last {
			if !same(x.Args[k], y.Args[k]) {
				return false
			}
		}
		x, y = x.Args[last], y.Args[last]
	}
}

// TestDeep: terms of 2^16 parts in one another, in each way in which they may be written, are read, and printed as they are written here.
func TestDeep(t *testing.T) {
	n := deepest - 1
	for _, l := range []struct{ ahead, middle, behind string }{
		{"f(", "a", ")"}, {"- ", "a", ""}, {"\\+ ", "- 1", ""}, {"{", "a", "}"}, {"[", "a", "]"}, {"a,", "a", ""}, {"a ^ ", "a", ""}, {"", "a", " - a"}, {"(", "a = a", ") = a"}, {"a = (", "b = b", ")"}, {"- (", "a", " - b)"}, {"f(b,", "a", ")"}, {"", "a", " - a * - 2"}, {"[a,", "b", "|c]"},
	} {
		m := n
		if strings.Count(l.ahead+l.behind, "-") > 1 || strings.Contains(l.ahead, "- (") {
			m = n / 2
		}
		s := strings.Repeat(l.ahead, m) + l.middle + strings.Repeat(l.behind, m)
		got, f := text.ReadTerm(s, text.Default())
		if f != (api.Fault{}) {
			t.Fatalf("%v: %s", l, showFault(f))
		}
		back, err := text.Print(got.Term, text.Default())
		if err != api.OK || back != s {
			t.Errorf("%v is printed %.60q.., %v", l, back, err)
		}
		list, f := text.Read(s+" . b.", text.Default())
		if f != (api.Fault{}) || len(list) != 2 {
			t.Errorf("%v: %d, %s", l, len(list), showFault(f))
		}
		// Not ended, or ended too often.
		if l.behind == ")" {
			stops(t, s[:len(s)-1], text.Default(), fault(api.ErrSyntax, len(s)-1))
			stops(t, s+")", text.Default(), fault(api.ErrSyntax, len(s)))
		}
	}
}

func TestDeepList(t *testing.T) {
	items := make([]api.Term, deepest-1)
	for k := range items {
		items[k] = i(int64(k))
	}
	u := list(a("[]"), items...)
	s, err := text.Print(u, text.Default())
	if err != api.OK || !strings.HasPrefix(s, "[0,1,2,") || !strings.HasSuffix(s, ",65534]") {
		t.Fatalf("%.60q.., %v", s, err)
	}
	got, f := text.ReadTerm(s, text.Default())
	if f != (api.Fault{}) || !sameDeep(got.Term, u) {
		t.Error(showFault(f))
	}
}

// TestManyBrackets: brackets make no term deeper.
func TestManyBrackets(t *testing.T) {
	const n = 1 << 18
	for _, open := range []string{"(", " ("} {
		reads(t, strings.Repeat(open, n)+"a"+strings.Repeat(")", n), text.Default(), a("a"))
		reads(t, strings.Repeat(open, n)+"a"+strings.Repeat(")", n-1)+"-b)", text.Default(), c("-", a("a"), a("b")))
		stops(t, strings.Repeat(open, n), text.Default(), fault(api.ErrSyntax, n*len(open)))
		stops(t, strings.Repeat(open, n)+"a"+strings.Repeat(")", n-1), text.Default(), fault(api.ErrSyntax, n*len(open)+n))
		stops(t, strings.Repeat(open, n)+"a"+strings.Repeat(")", n+1), text.Default(), fault(api.ErrSyntax, n*len(open)+n+1))
	}
}

// TestLong: texts with many tokens, sentences, variables or Args, and much layout.
func TestLong(t *testing.T) {
	const n = 1 << 17
	got, f := text.Read(strings.Repeat("p(X,_,Y) :- q(Y). % it\n", n), text.Default())
	if f != (api.Fault{}) || len(got) != n || got[n-1].At != (n-1)*23 || strings.Join(got[n-1].Names, " ") != "X _ Y" {
		t.Error(len(got), showFault(f))
	}
	one, f := text.ReadTerm("["+strings.Repeat("_,X,", deepest/2-1)+"Y]", text.Default())
	if f != (api.Fault{}) || len(one.Names) != deepest/2+1 || one.Names[1] != "X" || one.Names[deepest/2] != "Y" {
		t.Error(len(one.Names), showFault(f))
	}
	stops(t, args("f(", n, ")"), text.Default(), fault(api.ErrLarge, 0))
	reads(t, strings.Repeat(" % ' \"\n/* ( */\t\r\n", n)+"a"+strings.Repeat("/* ) */", n), nil, a("a"))
	stops(t, "/*"+strings.Repeat("*", n), nil, fault(api.ErrToken, 0))
	stops(t, "a '"+strings.Repeat("b", n), nil, fault(api.ErrToken, 2))
	stops(t, "a "+strings.Repeat("1", n), nil, fault(api.ErrToken, 2))
	if list, f := text.Tokens("'" + strings.Repeat("''", n)); f != fault(api.ErrToken, 0) || len(list) != 0 {
		t.Error(len(list), showFault(f))
	}
	if list, f := text.Tokens(strings.Repeat("f('a','',X1)", n)); f != (api.Fault{}) || len(list) != 8*n {
		t.Error(len(list), showFault(f))
	}
}
