package grammar_test

import (
	"sync"
	"testing"

	"hornbook/api"
	"hornbook/base"
	"hornbook/grammar"
	"hornbook/term"
)

// nested is core with around about it, so often.
func nested(n int, core api.Term, around func(t api.Term) api.Term) api.Term {
	t := core
	for range n {
		t = around(t)
	}
	return t
}

// deep are ways in which bodies are nested in bodies.
func deep() map[string]func(t api.Term) api.Term {
	return map[string]func(t api.Term) api.Term{
		"and, right":  func(x api.Term) api.Term { return c(",", a("a"), x) },
		"and, left":   func(x api.Term) api.Term { return c(",", x, a("a")) },
		"or, right":   func(x api.Term) api.Term { return c(";", v(1), x) },
		"or, left":    func(x api.Term) api.Term { return c(";", x, v(1)) },
		"then, right": func(x api.Term) api.Term { return c("->", a("!"), x) },
		"then, left":  func(x api.Term) api.Term { return c("->", x, v(2)) },
		"not":         func(x api.Term) api.Term { return c("\\+", x) },
		"list":        func(x api.Term) api.Term { return c(".", v(1), x) },
		"goals":       func(x api.Term) api.Term { return c("{}", x) },
		"goals, and":  func(x api.Term) api.Term { return c(",", v(1), x) },
		"other":       func(x api.Term) api.Term { return c("f", x) },
	}
}

// most parts may be nested in one another, by the document.
const most = 1 << 16

// inRule is a rule with a body that is nested so often.
func inRule(name string, n int, core api.Term, around func(t api.Term) api.Term) api.Term {
	body := nested(n, core, around)
	if name == "goals, and" {
		body = c("{}", body)
	}
	return arrow(a("s"), body)
}

// TestDeep: deeper than the document bounds. The time grows as the goals do, else this would take hours.
func TestDeep(t *testing.T) {
	t.Parallel()
	const few = 3000
	for name, around := range deep() {
		want, _ := naiveTranslate(inRule(name, few, a("[]"), around))
		_, wantErr := naiveTranslate(inRule(name, few, i(1), around))
		for _, n := range []int{few, most + 1000} {
			rule := inRule(name, n, a("[]"), around)
			got, err := grammar.Translate(rule)
			if err != api.OK || n == few && !same(got, want) {
				t.Error(name, n, "is turned into another clause", err)
			}
			if _, err := base.Make(got); err != api.OK {
				t.Error(name, n, "is no clause", err)
			}
			// Between two variables the goal is the clause's body, but for the numbers.
			goal, err := grammar.Phrase(rule.Args[1], v(8), v(7))
			if is, _ := term.Variant(c(":-", c("s", v(8), v(7)), goal), got); err != api.OK || !is {
				t.Error(name, n, "has another goal", err)
			}
			if _, err := grammar.Translate(inRule(name, n, i(1), around)); err != wantErr {
				t.Error(name, n, "with an integer", err)
			}
		}
	}
}

// TestErrorsTakeNoRoom: the goals would be far too large to be written, but there are none.
func TestErrorsTakeNoRoom(t *testing.T) {
	alternatives := nested(60000, i(1), func(x api.Term) api.Term { return c(";", a("a"), x) })
	negations := nested(60000, c("a", v(1)), func(x api.Term) api.Term { return c("\\+", x) })
	words := nested(60000, a("[]"), func(x api.Term) api.Term { return c(".", a("w"), x) })
	if got, err := grammar.Phrase(alternatives, words, words); err != api.ErrKind || !isZero(got) {
		t.Error(err)
	}
	if got, err := grammar.Phrase(negations, c(".", v(api.MaxVar-59999), words), words); err != api.ErrLarge || !isZero(got) {
		t.Error(err)
	}
}

// TestAtOnce: calls that go on side by side have nothing to do with each other.
func TestAtOnce(t *testing.T) {
	l := samples(t)
	var want []string
	for _, h := range l {
		want = append(want, h.asked().told())
	}
	var workers sync.WaitGroup
	for range 4 {
		workers.Add(1)
		go func() {
			defer workers.Done()
			for k, h := range l {
				if got := h.asked().told(); got != want[k] {
					t.Errorf("sample %d: %s, not %s", k, got, want[k])
				}
			}
		}()
	}
	workers.Wait()
}
