package grammar_test

import (
	"testing"

	"hornbook/api"
	"hornbook/grammar"
)

// data is a term as it may stand anywhere.
func (x *chance) data(deep int) api.Term {
	switch k := x.below(8); {
	case k < 3:
		return v(pick[int64](x, 0, 1, 2, 3, 9, 1<<35, api.MaxVar-5))
	case k == 3:
		return i(int64(x.below(3)))
	case k < 6 || deep == 0:
		return a(pick(x, "a", "b", "[]", "{}", "!", ",", "call"))
	}
	args := make([]api.Term, 1+x.below(3))
	for k := range args {
		args[k] = x.data(deep - 1)
	}
	return c(pick(x, "f", ".", "{}", ",", "->", "\\+", "call"), args...)
}

// leaf is a body without bodies in it; wrong says how seldom it may be any term at all.
func (x *chance) leaf(wrong int) api.Term {
	if x.below(wrong) == 0 {
		return pick(x, x.data(2), i(3), list(x.data(1), a("a")), c("{}", x.data(2)), of("a", pick(x, 48, 49)), of("call", pick(x, 6, 7, 49)), a(pick(x, "=", "length", "call", "is")), of(pick(x, "arg", "functor", "call"), x.below(3)))
	}
	switch x.below(9) {
	case 0:
		return v(int64(x.below(4)))
	case 1:
		return list(a("[]"), x.words()...)
	case 2:
		return a(pick(x, "[]", "{}", "!"))
	case 3:
		return c("{}", pick(x, v(1), a("a"), c("p", x.data(2)), c(",", v(2), a("b")), c(";", a("a"), c("->", v(0), v(1))), c("\\+", x.data(1))))
	case 4:
		return c("call", append(x.words(), x.data(1))...)
	case 5:
		return c("n", append(x.words(), x.data(2))...)
	}
	return a(pick(x, "n", "m", "true", "\\+", "."))
}

func (x *chance) words() []api.Term {
	words := make([]api.Term, x.below(4))
	for k := range words {
		words[k] = x.data(1)
	}
	return words
}

func (x *chance) body(deep, wrong int) api.Term {
	switch k := x.below(8); {
	case deep == 0 || k == 0:
		return x.leaf(wrong)
	case k < 4:
		return c(",", x.body(deep-1, wrong), x.body(deep-1, wrong))
	case k < 6:
		return c(";", x.body(deep-1, wrong), x.body(deep-1, wrong))
	case k == 6:
		return c("->", x.body(deep-1, wrong), x.body(deep-1, wrong))
	}
	return c("\\+", x.body(deep-1, wrong))
}

// rule is mostly one that is turned into a clause.
func (x *chance) rule() api.Term {
	wrong := pick(x, 4, 20, 1000)
	head := pick(x, a("s"), c("s", x.data(2)), c("s", x.data(2), x.data(1)))
	if x.below(wrong) == 0 {
		head = pick(x, x.data(2), of("s", pick(x, 48, 49, 50)), of("call", 5+x.below(4)), of("arg", x.below(3)), a("="), a("-->"))
	}
	if x.below(wrong*2) == 0 {
		return pick(x, head, c("-->", head), c(":-", head, x.body(2, wrong)), c("-->", head, a("a"), a("b")))
	}
	return arrow(head, x.body(x.below(6), wrong))
}

// TestTranslateByChance holds Translate against the document, word by word.
func TestTranslateByChance(t *testing.T) {
	x := chance(20)
	kinds := map[api.Errno]int{}
	for range 20000 {
		rule := x.rule()
		want, wantErr := naiveTranslate(rule)
		got, err := grammar.Translate(rule)
		if err != wantErr || !same(got, want) {
			t.Fatalf("%s: %s, %v, not %s, %v", show(rule), show(got), err, show(want), wantErr)
		}
		kinds[err]++
	}
	if kinds[api.OK] < 8000 || kinds[api.ErrArg] < 200 || kinds[api.ErrKind] < 400 || kinds[api.ErrLarge] < 400 || kinds[api.ErrClause] < 400 {
		t.Error(kinds)
	}
}

// TestPhraseByChance holds Phrase against the document, word by word, with few numbers left for new variables now and then.
func TestPhraseByChance(t *testing.T) {
	x := chance(21)
	kinds, edge := map[api.Errno]int{}, 0
	for range 20000 {
		body := x.body(x.below(6), pick(&x, 4, 20, 1000))
		s, r := x.data(2), x.data(2)
		if x.below(4) == 0 {
			s = c("f", v(api.MaxVar-int64(x.below(6))))
		}
		want, wantErr := naivePhrase(body, s, r)
		got, err := grammar.Phrase(body, s, r)
		if err != wantErr || !same(got, want) {
			t.Fatalf("%s, %s, %s: %s, %v, not %s, %v", show(body), show(s), show(r), show(got), err, show(want), wantErr)
		}
		kinds[err]++
		if greatestOf(got) == api.MaxVar {
			edge++
		}
	}
	if kinds[api.OK] < 8000 || kinds[api.ErrKind] < 400 || kinds[api.ErrLarge] < 400 || kinds[api.ErrClause] < 400 || edge < 200 {
		t.Error(kinds, edge)
	}
}
