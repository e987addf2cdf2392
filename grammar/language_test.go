package grammar_test

import (
	"strconv"
	"strings"
	"testing"

	"hornbook/api"
	"hornbook/base"
	"hornbook/grammar"
	"hornbook/solve"
	"hornbook/text"
)

// laid gives a base with the clauses that rules are turned into.
func laid(t *testing.T, rules ...api.Term) *base.Base {
	t.Helper()
	b := base.New()
	for _, rule := range rules {
		clause := rule
		if isOf(rule, "-->", 2) {
			var err api.Errno
			if clause, err = grammar.Translate(rule); err != api.OK {
				t.Fatalf("%s: %v", show(rule), err)
			}
		}
		made, err := base.Make(clause)
		if err != api.OK {
			t.Fatalf("%s: %v", show(clause), err)
		}
		if _, err := b.Add(made, false); err != api.OK {
			t.Fatalf("%s: %v", show(clause), err)
		}
	}
	return b
}

func readRules(t *testing.T, s string) []api.Term {
	t.Helper()
	sentences, f := text.Read(s, text.Default())
	if f.Code != api.OK {
		t.Fatalf("%q: error %d at %d", s, f.Code, f.At)
	}
	var rules []api.Term
	for _, x := range sentences {
		rules = append(rules, x.Term)
	}
	return rules
}

// TestGrammars: what is made of words by some grammars, with all that the table has.
func TestGrammars(t *testing.T) {
	for _, x := range []struct{ rules, body, words, want string }{
		{"s --> [a],s,[b]. s --> [].", "s", "[a,a,b,b]", "s"}, {"s --> [a],s,[b]. s --> [].", "s", "[a,b,b]", ""}, {"s --> [a],s,[b]. s --> [].", "s", "[]", "s"}, {"s --> [a],s,[b]. s --> [].", "(s,s)", "[a,b]", "s,s; s,s"},
		{"n(N) --> d(D),n(D,N). n(M,N) --> d(D),!,{K is M*10+D},n(K,N). n(N,N) --> []. d(D) --> [D],{integer(D),D>=0,D=<9}.", "n(N)", "[4,0,7]", "n(407)"},
		{"e(X) --> t(Y),e(Y,X). e(Y,X) --> [+],!,t(Z),{W is Y+Z},e(W,X). e(X,X) --> []. t(X) --> [X],{integer(X)}. t(X) --> ['('],e(X),[')'].", "e(X)", "[1,+,'(',2,+,3,')',+,4]", "e(10)"},
		// A body that is handed in: as a variable, and by call, with Args of its own and without.
		{"twice(X) --> X,X. w(A) --> [A].", "twice(w(Y))", "[b,b]", "twice(w(b))"}, {"twice(X) --> X,X. w(A) --> [A].", "twice(w(Y))", "[b,c]", ""}, {"each(_,[]) --> []. each(P,[X|L]) --> call(P,X),each(P,L). w(A) --> [f(A)].", "each(w,L)", "[f(a),f(b)]", "each(w,[a,b])"},
		// Looking ahead, choosing once, cutting.
		{"s --> \\+ [b],[X],s. s --> [b].", "s", "[a,c,b]", "s"}, {"s --> \\+ [b],[X],s. s --> [b].", "s", "[a,b,c]", ""}, {"s --> ([a] -> [b] ; [c]).", "s", "[a,b]", "s"}, {"s --> ([a] -> [b] ; [a,c]).", "s", "[a,c]", ""}, {"s --> ([a] -> [b] ; [c]).", "s", "[c]", "s"}, {"s --> ([a] -> [b]).", "s", "[b]", ""},
		{"s --> [a],!,[b]. s --> [a,c].", "s", "[a,c]", ""}, {"s --> [a],!,[b]. s --> [a,c].", "s", "[a,b]", "s"}, {"s --> {fail}. s --> {},{true},[].", "s", "[]", "s"}, {"s --> [a];[b];[].", "(s,s,s)", "[b,a]", "s,s,s; s,s,s; s,s,s"},
	} {
		goal, err := grammar.Phrase(read(t, x.body), read(t, x.words), a("[]"))
		if err != api.OK {
			t.Fatal(x.body, err)
		}
		search, err := solve.New(laid(t, readRules(t, x.rules)...), c(",", c("=", v(1<<39), read(t, x.body)), goal))
		if err != api.OK {
			t.Fatal(x.body, err)
		}
		var got []string
		o := search.Next(10000)
		for ; o.Kind == api.Answer; o = search.Next(10000) {
			got = append(got, printed(o.Term.Args[0].Args[1]))
		}
		if o.Kind != api.None || strings.Join(got, "; ") != x.want {
			t.Errorf("%s %s of %s: %v, %v", x.rules, x.body, x.words, got, o)
		}
	}
}

// language is a grammar of few names, of which each has some bodies, and some words.
type language struct {
	bodies [][]api.Term
	words  []string
}

// part is a body that says no more than what it is made of: names from least on, or, if there is none, words alone.
func (x *chance) part(deep, least, names int) api.Term {
	k := x.below(12)
	if deep == 0 {
		k = 6 + x.below(6)
	}
	switch {
	case k < 4:
		return c(",", x.part(deep-1, least, names), x.part(deep-1, least, names))
	case k < 5:
		return c(";", x.part(deep-1, least, names), x.part(deep-1, least, names))
	case k < 6:
		return c("\\+", x.part(deep-1, names, names))
	case k < 8 && least < names:
		name := a("n" + strconv.Itoa(least+x.below(names-least)))
		return pick(x, name, name, c("call", name))
	case k == 8:
		return pick(x, a("[]"), a("{}"), c("{}", a("true")), c("{}", a("fail")))
	case k == 9:
		return list(a("[]"), a(pick(x, "a", "b")), a(pick(x, "a", "b")))
	}
	return list(a("[]"), a(pick(x, "a", "b")))
}

func (x *chance) language() language {
	var l language
	names := 1 + x.below(3)
	for k := range names {
		// Without names that may come again a search has an end.
		least := pick(x, 0, k+1)
		bodies := []api.Term{x.part(3, least, names)}
		for range x.below(3) {
			bodies = append(bodies, x.part(3, least, names))
		}
		l.bodies = append(l.bodies, bodies)
	}
	for range x.below(5) {
		l.words = append(l.words, pick(x, "a", "b"))
	}
	return l
}

// span: from which word up to which one.
type span struct{ from, to int }

// ends says where a body that begins at a word may end, as bits, if the names are made of what is in made.
func (l language) ends(b api.Term, from int, made []map[span]bool) int {
	switch {
	case isOf(b, ",", 2):
		all, first := 0, l.ends(b.Args[0], from, made)
		for at := range len(l.words) + 1 {
			if first>>at&1 == 1 {
				all |= l.ends(b.Args[1], at, made)
			}
		}
		return all
	case isOf(b, ";", 2):
		return l.ends(b.Args[0], from, made) | l.ends(b.Args[1], from, made)
	case isOf(b, "\\+", 1) && l.ends(b.Args[0], from, made) != 0, isOf(b, "{}", 1) && b.Args[0].Name == "fail":
		return 0
	case isOf(b, ".", 2):
		if from < len(l.words) && l.words[from] == b.Args[0].Name {
			return l.ends(b.Args[1], from+1, made)
		}
		return 0
	case isOf(b, "call", 1):
		return l.ends(b.Args[0], from, made)
	case strings.HasPrefix(b.Name, "n"):
		all := 0
		for to := range len(l.words) + 1 {
			if made[b.Name[1]-'0'][span{from, to}] {
				all |= 1 << to
			}
		}
		return all
	}
	return 1 << from
}

// made is which spans of the words each name may be, from nothing on until no more come.
func (l language) made() []map[span]bool {
	var made []map[span]bool
	for range l.bodies {
		made = append(made, map[span]bool{})
	}
	for more := true; more; {
		more = false
		for k, bodies := range l.bodies {
			for _, b := range bodies {
				for from := range len(l.words) + 1 {
					all := l.ends(b, from, made)
					for to := range len(l.words) + 1 {
						if all>>to&1 == 1 && !made[k][span{from, to}] {
							made[k][span{from, to}] = true
							more = true
						}
					}
				}
			}
		}
	}
	return made
}

func (l language) rules() []api.Term {
	var rules []api.Term
	for k, bodies := range l.bodies {
		for _, b := range bodies {
			rules = append(rules, arrow(a("n"+strconv.Itoa(k)), b))
		}
	}
	return rules
}

func (l language) list() api.Term {
	var words []api.Term
	for _, w := range l.words {
		words = append(words, a(w))
	}
	return list(a("[]"), words...)
}

// TestLanguages: a search that comes to an end has an answer just if the rules make the words; and so of all that is behind a part.
func TestLanguages(t *testing.T) {
	x := chance(23)
	made, not, many := 0, 0, 0
	for round := range 3000 {
		l := x.language()
		whole := span{0, len(l.words)}
		want := l.made()[0]
		goal, err := grammar.Phrase(a("n0"), l.list(), a("[]"))
		if err != api.OK {
			t.Fatal(err)
		}
		b := laid(t, l.rules()...)
		search, _ := solve.New(b, goal)
		switch o := search.Next(500); {
		case o.Kind == api.Answer && want[whole]:
			made++
		case o.Kind == api.None && !want[whole]:
			not++
		case o.Kind != api.Out:
			t.Fatalf("round %d: %s of %s: %v", round, show(c("r", l.rules()...)), show(l.list()), o)
		}
		goal, _ = grammar.Phrase(a("n0"), l.list(), v(0))
		search, _ = solve.New(b, goal)
		got := map[span]bool{}
		o := search.Next(500)
		// There may be answers without end.
		for k := 0; o.Kind == api.Answer && k < 300; k++ {
			got[span{0, len(l.words) - length(o.Term.Args[1])}] = true
			o = search.Next(500)
		}
		for to := range len(l.words) + 1 {
			if at := (span{0, to}); got[at] && !want[at] || o.Kind == api.None && want[at] && !got[at] {
				t.Fatalf("round %d: %s of %s up to %d: %v", round, show(c("r", l.rules()...)), show(l.list()), to, got[at])
			}
		}
		if len(got) > 1 {
			many++
		}
	}
	if made < 200 || not < 500 || many < 100 {
		t.Error(made, not, many)
	}
}

func length(t api.Term) int {
	n := 0
	for isOf(t, ".", 2) {
		t = t.Args[1]
		n++
	}
	return n
}
