package domain_test

import (
	"testing"

	"hornbook/api"
	"hornbook/domain"
)

// TestSolve: all solutions, in their order, and the first so many.
func TestSolve(t *testing.T) {
	for _, x := range []struct {
		want string
		most int
		p    api.Problem
	}{
		{"[1 3; 2 1]", 9, problem(alike(2, span(0, 3)), equal(5, by(2, 1), 0, 1))},
		{"[1 3; 2 1]", 2, problem(alike(2, span(0, 3)), equal(5, by(2, 1), 0, 1))},
		{"[1 3]", 1, problem(alike(2, span(0, 3)), equal(5, by(2, 1), 0, 1))},
		{"[]", 0, problem(alike(2, span(0, 3)), equal(5, by(2, 1), 0, 1))},
		{"[]", -1, problem(alike(2, span(0, 3)), equal(5, by(2, 1), 0, 1))},
		{"[]", least, problem(alike(2, span(0, 3)), equal(5, by(2, 1), 0, 1))},
		{"[]", 9, problem(alike(2, span(0, 3)), equal(10, by(2, 1), 0, 1))},
		{"[-5; 0; 7]", greatest, problem(on(by(-5, 0, 7)))},
		{"[0 0 1; 0 0 2; 0 1 1; 0 1 2; 1 0 1; 1 0 2; 1 1 1; 1 1 2]", 8, problem(on(span(0, 1), span(0, 1), span(1, 2)))},
		{"[0 0 1; 0 0 2; 0 1 1]", 3, problem(on(span(0, 1), span(0, 1), span(1, 2)))},
		{"[0 1 2; 0 2 1; 1 0 2; 1 2 0; 2 0 1; 2 1 0]", 9, problem(alike(3, span(0, 2)), differ(2, 1, 0))},
		{"[0 1; 1 2; 2 3]", 9, problem(on(span(0, 9), span(0, 3)), equal(-1, by(1, -1), 0, 1))},
		{"[0 2; 1 1; 2 0]", 9, problem(alike(2, span(0, 9)), equal(2, by(1, 1), 1, 0))},
		{"[-2 -3 6; -1 -6 6; 1 6 6; 2 3 6]", 9, problem(on(span(-2, 2), span(-9, 9), by(6, 7)), times(0, 1, 2), unlike(7, by(1), 2))},
		{"[0 4; 1 2; 2 0; 3 2; 4 4]", 9, problem(on(span(-9, 9), span(0, 9)), pickOf(by(4, 2, 0, 2, 4), 0, 1))},
		// Of three that must differ two by two none are left, though each two of them have support.
		{"[]", 9, problem(alike(3, span(0, 1)), differ(0, 1), differ(1, 2), differ(0, 2))},
		{"[0 1 2 0; 0 2 1 0; 1 0 2 0; 1 2 0 0; 2 0 1 0; 2 1 0 0]", 9, problem(append(alike(3, span(0, 2)), by(0)), differ(0, 1), differ(1, 2), unlike(0, by(-3, 3), 2, 0), differ(3))},
		{"[]", 9, problem(on(nil))},
		{"[]", 9, problem(on(by(1), nil, by(2)))},
	} {
		if got := solved(t, x.p, x.most); showLists(got) != x.want {
			t.Errorf("the first %d: %s, not %s, of\n%s", x.most, showLists(got), x.want, showProblem(x.p))
		}
	}
}

// TestSolveOfNoVariables: one solution, of no numbers.
func TestSolveOfNoVariables(t *testing.T) {
	for _, p := range []api.Problem{{}, problem(on()), problem(nil, differ()), problem(nil, differ(), differ())} {
		for _, most := range []int{1, 2, greatest} {
			if got := solved(t, p, most); len(got) != 1 || len(got[0]) != 0 {
				t.Errorf("the first %d: %s of\n%s", most, showLists(got), showProblem(p))
			}
		}
		for _, most := range []int{0, -1, least} {
			if got := solved(t, p, most); len(got) != 0 {
				t.Errorf("the first %d: %s of\n%s", most, showLists(got), showProblem(p))
			}
		}
		for _, v := range []int{least, -1, 0, 1, greatest} {
			if got, ok, err := domain.Best(p, v); got != nil || ok || err != api.ErrArg {
				t.Errorf("X%d: %s, %v, %v of\n%s", v, showNumbers(got), ok, err, showProblem(p))
			}
		}
	}
}

func TestBest(t *testing.T) {
	p := problem(on(span(0, 3), span(0, 3), span(0, 9)), equal(5, by(2, 1), 0, 1))
	tied := problem(alike(3, span(0, 3)), equal(3, by(1, 1), 0, 2))
	for _, x := range []struct {
		want string
		v    int
		p    api.Problem
	}{
		{"1 3 0", 0, p}, {"2 1 0", 1, p}, {"1 3 0", 2, p},
		{"0 0 3", 0, tied}, {"0 0 3", 1, tied}, {"3 0 0", 2, tied},
		{"1 0 1", 0, problem(alike(3, span(0, 2)), equal(1, by(1, -1, 1, -1), 2, 0, 0, 1), unlike(0, by(1), 0))},
		// The least number that has support is in no solution.
		{"0 1 2 1", 3, problem(alike(4, span(0, 2)), differ(0, 1), differ(1, 2), differ(0, 2), atMost(2, by(1, 1, 1, -1), 0, 1, 2, 3))},
		{"2 0", 1, problem(on(span(0, 2), span(-1, 1)), equal(2, by(1, 1), 0, 1))},
		{"-7", 0, problem(on(by(-7, 0, 7)))},
		{"none", 0, problem(alike(2, span(0, 3)), equal(10, by(2, 1), 0, 1))},
		{"none", 1, problem(alike(2, span(0, 3)), equal(10, by(2, 1), 0, 1))},
		{"none", 2, problem(alike(3, span(0, 1)), differ(0, 1), differ(1, 2), differ(0, 2))},
		{"none", 0, problem(on(nil))},
		{"none", 0, problem(on(by(1), nil))},
	} {
		if got := best(t, x.p, x.v); got != x.want {
			t.Errorf("X%d: %s, not %s, of\n%s", x.v, got, x.want, showProblem(x.p))
		}
	}
	for _, p := range []api.Problem{p, problem(alike(3, span(0, 1)), differ(0, 1), differ(1, 2), differ(0, 2)), problem(alike(3, nil)), problem(alike(3, by(1)), unlike(1, by(1), 0))} {
		for _, v := range []int{least, -1, 3, 4, 50, greatest} {
			if got, ok, err := domain.Best(p, v); got != nil || ok || err != api.ErrArg {
				t.Errorf("X%d: %s, %v, %v of\n%s", v, showNumbers(got), ok, err, showProblem(p))
			}
		}
	}
}
