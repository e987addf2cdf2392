package domain_test

import (
	"testing"

	"hornbook/api"
)

// reduceCase: a problem, and what is left of its domains.
type reduceCase struct {
	want string
	p    api.Problem
}

func heldCases(t *testing.T, l []reduceCase) {
	t.Helper()
	for _, x := range l {
		if got := reduced(t, x.p); got != x.want {
			t.Errorf("%s, not %s, of\n%s", got, x.want, showProblem(x.p))
		}
	}
}

// on are domains.
func on(l ...[]int64) [][]int64 { return l }

func TestReduceSums(t *testing.T) {
	heldCases(t, []reduceCase{
		{"[1 2; 1 3]", problem(alike(2, span(0, 3)), equal(5, by(2, 1), 0, 1))},
		{"[2]", problem(on(span(0, 3)), equal(2, by(1), 0))},
		{"none", problem(on(span(0, 3)), equal(4, by(1), 0))},
		{"none", problem(on(span(0, 3)), equal(3, by(2), 0))},
		{"[-2]", problem(on(span(-3, 3)), equal(6, by(-3), 0))},
		{"[0; 0; 0; 0]", problem(alike(4, span(0, 3)), equal(0, by(1, 1, 1, 1), 0, 1, 2, 3))},
		{"[3; 3; 3; 0 1]", problem(append(alike(3, span(0, 3)), span(0, 1)), equal(9, by(1, 1, 1, 0), 0, 1, 2, 3))},
		// Each constraint by itself: 1, 0, 1 is a support of the first alone.
		{"[0 1 2 3; 0 1; 0 1 2 3]", problem(alike(3, span(0, 3)), equal(0, by(1, 3, -1), 0, 1, 2), unlike(0, by(1, -1), 0, 2))},
		// What is between the least and the greatest may have none.
		{"[0 2 4; 0 1 2]", problem(on(span(0, 4), span(0, 9)), equal(0, by(1, -2), 0, 1))},
		{"[1 7; 3 9]", problem(on(span(0, 9), by(3, 9)), equal(10, by(1, 1), 0, 1))},
		{"[0 100; 0 1]", problem(on(append(span(0, 90), 100), span(0, 1)), equal(0, by(1, -100), 0, 1))},
		{"[0 1 5 6; 0 1; 0 5; 0]", problem(on(span(0, 9), span(0, 1), by(0, 5), by(-1, 0)), equal(0, by(1, -1, -1, 1000), 0, 1, 2, 3))},
		// At most.
		{"[0 1 2]", problem(on(span(0, 9)), atMost(2, by(1), 0))},
		{"[0 1 2]", problem(on(span(0, 9)), atMost(5, by(2), 0))},
		{"[7 8 9]", problem(on(span(0, 9)), atMost(-7, by(-1), 0))},
		{"[0 1 2; 0 1]", problem(alike(2, span(0, 9)), atMost(5, by(2, 3), 0, 1))},
		{"[0 1 2 3 4; 0 1 2; 0 1]", problem(alike(3, span(0, 9)), atMost(4, by(1, 2, 4), 0, 1, 2))},
		{"[0 1 2 3 4 5 6 7 8; 1 2 3 4 5 6 7 8 9]", problem(alike(2, span(0, 9)), atMost(-1, by(1, -1), 0, 1))},
		{"none", problem(alike(2, span(0, 9)), atMost(-1, by(1, 1), 0, 1))},
		{"[0; 0]", problem(alike(2, span(0, 9)), atMost(0, by(1, 1), 0, 1))},
		// Two that run into each other until there is nothing left.
		{"none", problem(alike(2, span(0, 9)), atMost(-1, by(1, -1), 0, 1), atMost(-1, by(-1, 1), 0, 1))},
		{"[4; 5]", problem(on(span(0, 4), span(5, 9)), atMost(-1, by(-1, 1), 1, 0), atMost(1, by(1, -1), 1, 0))},
		// Not.
		{"[0 1 3]", problem(on(span(0, 3)), unlike(2, by(1), 0))},
		{"[0 1 2 3]", problem(on(span(0, 3)), unlike(3, by(2), 0))},
		{"[0 2 3; 1]", problem(on(span(0, 3), by(1)), unlike(0, by(1, -1), 0, 1))},
		{"[0 1 2 3; 0 1]", problem(on(span(0, 3), span(0, 1)), unlike(0, by(1, -1), 0, 1))},
		{"none", problem(on(by(1), by(1)), unlike(0, by(1, -1), 0, 1))},
		{"[1; 2]", problem(on(by(1), by(2)), unlike(0, by(1, -1), 0, 1))},
		{"[1; 2; 0 2; 4]", problem(on(by(1), by(2), span(0, 2), by(4)), unlike(0, by(1, 1, 1, -1), 0, 1, 2, 3))},
		{"none", problem(on(by(3), by(1, 2)), unlike(3, by(1, 0), 0, 1))},
		{"[3; 1 2]", problem(on(by(3), by(1, 2)), unlike(2, by(1, 0), 0, 1))},
		// Coefs of 0.
		{"[0 1]", problem(on(span(0, 1)), equal(0, by(0), 0))},
		{"none", problem(on(span(0, 1)), equal(1, by(0), 0))},
		{"[0 1]", problem(on(span(0, 1)), atMost(0, by(0), 0))},
		{"none", problem(on(span(0, 1)), atMost(-1, by(0), 0))},
		{"none", problem(on(span(0, 1)), unlike(0, by(0), 0))},
		{"[0 1]", problem(on(span(0, 1)), unlike(-1, by(0), 0))},
	})
}

// TestReduceTwice: a variable that stands twice is the same number both times.
func TestReduceTwice(t *testing.T) {
	heldCases(t, []reduceCase{
		{"[2]", problem(on(span(0, 3)), equal(4, by(1, 1), 0, 0))},
		{"none", problem(on(span(0, 3)), equal(3, by(1, 1), 0, 0))},
		{"[0 1 2 3]", problem(on(span(0, 3)), equal(0, by(1, -1), 0, 0))},
		{"none", problem(on(span(0, 3)), equal(1, by(1, -1), 0, 0))},
		{"none", problem(on(span(0, 3)), unlike(0, by(1, -1), 0, 0))},
		{"[0 1 3]", problem(on(span(0, 3)), unlike(4, by(1, 1), 0, 0))},
		{"[0 1]", problem(on(span(0, 3)), atMost(3, by(1, 1), 0, 0))},
		{"[1 2; 1 3]", problem(alike(2, span(0, 3)), equal(5, by(1, 1, 1), 0, 1, 0))},
		{"[1; 0 1 2 3]", problem(alike(2, span(0, 3)), equal(1, by(2, 1, -1, -1), 0, 1, 0, 1), times(0, 0, 0))},
		{"[0 1 2 3; 2]", problem(alike(2, span(0, 3)), equal(4, by(7, 1, -7, 1), 0, 1, 0, 1))},
		{"[0 1; 0 1]", problem(alike(2, span(0, 3)), times(0, 0, 1))},
		{"[0 1; 0 1 2 3]", problem(on(span(0, 1), span(0, 3)), times(0, 1, 0))},
		{"[0 3; 1]", problem(on(by(0, 3), by(1, 5)), times(0, 1, 0), unlike(99, by(1), 0), equal(1, by(1), 1))},
		{"[0; 2 3]", problem(on(span(0, 3), span(2, 3)), times(0, 1, 0))},
		{"[0; 2 3]", problem(on(span(0, 3), span(2, 3)), times(1, 0, 0))},
		{"[0 1]", problem(on(span(-3, 3)), times(0, 0, 0))},
		{"none", problem(on(span(2, 3)), times(0, 0, 0))},
		{"[1 2]", problem(on(span(0, 3)), pickOf(by(3, 1, 2), 0, 0))},
		{"none", problem(on(span(0, 3)), pickOf(by(3, 2, 1), 0, 0), unlike(0, by(1), 0))},
	})
}

func TestReduceDiffer(t *testing.T) {
	heldCases(t, []reduceCase{
		{"[0 1; 0 1]", problem(alike(2, span(0, 1)), differ(0, 1))},
		{"none", problem(alike(2, by(1)), differ(0, 1))},
		{"none", problem(alike(3, span(0, 1)), differ(0, 1, 2))},
		{"[0 1; 0 1; 0 1]", problem(alike(3, span(0, 1)), differ(0, 1), differ(1, 2), differ(0, 2))},
		{"[0 1; 0 1; 2 3]", problem(on(span(0, 1), span(0, 1), span(0, 3)), differ(0, 1, 2))},
		{"[0 1; 2 3; 0 1]", problem(on(span(0, 1), span(0, 3), span(0, 1)), differ(2, 0, 1))},
		{"[5; 6; 7]", problem(on(by(5), by(5, 6), by(5, 6, 7)), differ(0, 1, 2))},
		{"[0 3; 0 7; 3 7; 5]", problem(on(by(0, 3), by(0, 7), by(3, 7), by(0, 3, 5, 7)), differ(0, 1, 2, 3))},
		{"none", problem(on(by(0, 3), by(0, 7), by(3, 7), by(0, 3, 7)), differ(0, 1, 2, 3))},
		{"[0 1; 0 1; 2 3; 2 3; 4 5; 4 5; 6; 7]", problem(on(span(0, 1), span(0, 1), span(0, 3), span(1, 3), span(2, 5), span(3, 5), span(0, 6), span(0, 7)), differ(0, 1, 2, 3, 4, 5, 6, 7))},
		{showLists(alike(8, span(1, 8))), problem(alike(8, span(1, 8)), differ(7, 6, 5, 4, 3, 2, 1, 0))},
		{"none", problem(alike(8, span(1, 7)), differ(0, 1, 2, 3, 4, 5, 6, 7))},
		{showLists(append(alike(7, span(1, 7)), by(-5, 8))), problem(append(alike(7, span(1, 7)), append(by(-5), span(1, 8)...)), differ(0, 1, 2, 3, 4, 5, 6, 7))},
		{showLists(alike(8, span(1, 100))), problem(alike(8, span(1, 100)), differ(0, 1, 2, 3, 4, 5, 6, 7))},
		{showLists(append(alike(7, span(1, 7)), span(8, 100))), problem(append(alike(7, span(1, 7)), span(1, 100)), differ(0, 1, 2, 3, 4, 5, 6, 7))},
		{"[1; 2]", problem(on(by(1), by(2)), differ(0), differ(1), differ())},
		{"[1; 1]", problem(on(by(1), by(1)), differ(0), differ(1), differ())},
	})
}

func TestReduceTimes(t *testing.T) {
	heldCases(t, []reduceCase{
		{"[2 3; 2 3; 4 6]", problem(on(span(0, 3), span(0, 3), by(4, 6, 7)), times(0, 1, 2))},
		{"[-3 -2 2 3; -3 -2 2 3; -6 6]", problem(on(span(-3, 3), span(-3, 3), by(-6, 6)), times(0, 1, 2))},
		{"[0; 0 1 2; 0]", problem(on(by(0), span(0, 2), span(-1, 1)), times(0, 1, 2))},
		{"[0 1; 0 1 5; 0 5]", problem(on(span(0, 1), by(0, 1, 5), by(-5, 0, 5)), times(0, 1, 2), unlike(1, by(1), 2))},
		{"none", problem(on(span(2, 3), span(2, 3), by(5, 7, 8)), times(0, 1, 2))},
		{"[-1000 1000; -1000 1000; -1000000 1000000]", problem(on(by(-1000, 999, 1000), by(-1000, 1000, 1001), by(-1000000, 0, 1000000)), times(0, 1, 2))},
		{"none", problem(on(by(-1000000, 1000000), by(1000000), by(-1000000, 1000000)), times(0, 1, 2))},
		{"[1; 1000000; 1000000]", problem(on(by(1, 1000000), by(1000000), by(999999, 1000000)), times(0, 1, 2))},
		{"[2 3; 2 3; 6; 6]", problem(on(span(0, 9), span(2, 3), span(0, 9), by(6)), times(0, 1, 2), equal(0, by(1, -1), 2, 3))},
	})
}

func TestReducePick(t *testing.T) {
	heldCases(t, []reduceCase{
		{"[1 2 3; 7 8]", problem(on(span(0, 5), by(7, 8)), pickOf(by(9, 8, 7, 8), 0, 1))},
		{"[0; 3]", problem(on(span(-5, 5), span(0, 9)), pickOf(by(3), 0, 1))},
		{"none", problem(on(span(-5, 5), span(0, 9)), pickOf(by(), 0, 1))},
		{"none", problem(on(span(-5, 5), span(0, 9)), pickOf(nil, 0, 1))},
		{"none", problem(on(by(-1000000, -1, 2, 1000000), span(0, 9)), pickOf(by(1, 2), 0, 1))},
		{"none", problem(on(span(0, 5), span(0, 9)), pickOf(by(-1, 10), 0, 1))},
		{"[0 1; -1000000 1000000]", problem(on(span(0, 5), by(-1000000, 0, 1000000)), pickOf(by(-1000000, 1000000), 0, 1))},
		{"[0 1 2 3 4 5; 4]", problem(on(span(0, 9), span(0, 9)), pickOf(by(4, 4, 4, 4, 4, 4), 0, 1))},
		{"[99; 7]", problem(on(span(1, 100), by(7)), pickOf(append(zeros(99), 7), 0, 1))},
		{"[2; 0; 1]", problem(alike(3, span(0, 2)), pickOf(by(2, 2, 0), 0, 1), pickOf(by(1, 0), 1, 2))},
	})
}

// TestReduceFar: numbers as far from 0 as they may be.
func TestReduceFar(t *testing.T) {
	far := by(-1000000, 0, 1000000)
	heldCases(t, []reduceCase{
		{"[1000000; 1000000; 1000000; 1000000]", problem(alike(4, far), equal(4000000000, by(1000, 1000, 1000, 1000), 0, 1, 2, 3))},
		{"[-1000000; 1000000; -1000000; 1000000]", problem(alike(4, far), atMost(-4000000000, by(1000, -1000, 1000, -1000), 0, 1, 2, 3))},
		{"none", problem(alike(4, far), atMost(-4000000001, by(1000, -1000, 1000, -1000), 0, 1, 2, 3))},
		{"none", problem(alike(4, far), equal(1000000000000, by(1000, 1000, 1000, 1000), 0, 1, 2, 3))},
		{"none", problem(alike(4, far), equal(-1000000000000, by(1000, 1000, 1000, 1000), 0, 1, 2, 3))},
		{"none", problem(alike(4, far), atMost(-1000000000000, by(1000, 1000, 1000, 1000), 0, 1, 2, 3))},
		{showLists(alike(4, far)), problem(alike(4, far), atMost(1000000000000, by(1000, 1000, 1000, 1000), 0, 1, 2, 3), unlike(1000000000000, by(1000), 0))},
		{"[1000000]", problem(on(far), equal(4000000000, by(1000, 1000, 1000, 1000), 0, 0, 0, 0))},
		{"[0 1000000]", problem(on(far), unlike(-4000000000, by(1000, 1000, 1000, 1000), 0, 0, 0, 0))},
	})
}

// TestReduceNone: where a domain is empty there are none, whether something is said of its variable or not.
func TestReduceNone(t *testing.T) {
	heldCases(t, []reduceCase{
		{"[]", problem(nil)},
		{"[]", problem(on(), differ(), differ())},
		{"[5]", problem(on(by(5)))},
		{"[5; 1 2]", problem(on(by(5), by(1, 2)), differ())},
		{"none", problem(on(nil))},
		{"none", problem(on(by(1), by(), by(2)))},
		{"none", problem(on(by(1), by(), by(2)), equal(3, by(1, 1), 0, 2))},
		{"none", problem(on(by(1), by(2), span(1, 100)), equal(4, by(1, 1), 0, 1))},
	})
	for _, c := range fine() {
		for v := range 3 {
			d := digits()
			d[v] = nil
			heldCases(t, []reduceCase{{"none", problem(d, c)}})
		}
	}
}
