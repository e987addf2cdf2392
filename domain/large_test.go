package domain_test

import (
	"runtime"
	"slices"
	"testing"

	"hornbook/api"
	"hornbook/domain"
)

// planted is a problem as large as may be, of sums of four that all hold with one choice of numbers.
func planted(x *chance, vars, constraints int, coefs func() int64, number func(k int) int64) (api.Problem, []int64) {
	var p api.Problem
	var solution []int64
	for range vars {
		var l []int64
		for k := range 100 {
			l = append(l, number(k))
		}
		p.Domains = append(p.Domains, l)
		solution = append(solution, pick(x, l...))
	}
	for range constraints {
		c := equal(0, nil, x.order(vars)[:4]...)
		for _, v := range c.Vars {
			c.Coefs = append(c.Coefs, coefs())
			c.C += c.Coefs[len(c.Coefs)-1] * solution[v]
		}
		p.Constraints = append(p.Constraints, c)
	}
	return p, solution
}

// TestManySums: sums of four with as many numbers as may be, near each other or far apart.
func TestManySums(t *testing.T) {
	x := chance(71)
	for range 5 {
		for _, vars := range []int{10, 50} {
			near, nearSolution := planted(&x, vars, 100, func() int64 { return int64(x.below(7) - 3) }, func(k int) int64 { return int64(k) })
			far, farSolution := planted(&x, vars, 100, func() int64 { return int64(x.below(2001) - 1000) }, func(k int) int64 { return int64(k*20000 - 1000000 + x.below(20000)) })
			heldLeft(t, near, nearSolution)
			heldLeft(t, far, farSolution)
		}
	}
}

// heldLeft: a solution is among what is left, and among the solutions, which are few.
func heldLeft(t *testing.T, p api.Problem, solution []int64) {
	t.Helper()
	isSolution(t, p, solution)
	left, ok, err := domain.Reduce(p)
	if err != api.OK || !ok {
		t.Fatal(err, ok)
	}
	for v, n := range solution {
		if !slices.Contains(left[v], n) {
			t.Fatalf("X%d: not %d", v, n)
		}
	}
	all := solved(t, p, 1000)
	areSolutions(t, p, all)
	if !slices.ContainsFunc(all, func(l []int64) bool { return slices.Equal(l, solution) }) && len(all) < 1000 {
		t.Fatalf("%s not in %s", showNumbers(solution), showLists(all))
	}
}

// TestSteps: sums that are apart by some step, and few others, whatever the step is.
func TestSteps(t *testing.T) {
	for _, step := range []int64{1, 2, 3, 64, 1000, 4096, 4181, 6765, 8192, 9973} {
		for _, coefs := range [][]int64{by(1, 1, -1, -1), by(987, 610, 377, 233), by(1000, -1000, 1000, 999), by(512, 256, 128, 1)} {
			var l []int64
			for k := range int64(100) {
				l = append(l, k*step)
			}
			total := coefs[0] + coefs[1] + coefs[2] + coefs[3]
			p := problem(alike(4, l), equal(50*step*total, coefs, 0, 1, 2, 3))
			left, ok, err := domain.Reduce(p)
			if err != api.OK || !ok {
				t.Fatal(err, ok, step)
			}
			for _, own := range left {
				if !slices.Contains(own, 50*step) || len(own) < 1 {
					t.Error(step, showNumbers(own))
				}
			}
			if step > 1 {
				p.Constraints[0].C++
				if got := reduced(t, p); got != "none" {
					t.Error(step, got)
				}
			}
		}
	}
}

// TestManyRounds: what takes as many rounds as there are numbers.
func TestManyRounds(t *testing.T) {
	for _, apart := range []int64{-1, 0} {
		p := problem(alike(50, span(0, 99)))
		for k := range 50 {
			p.Constraints = append(p.Constraints, atMost(apart, by(1, -1), (k+1)%50, k), atMost(apart, by(1, -1, 0), (k+1)%50, k, (k+2)%50))
		}
		want := "none"
		if apart == 0 {
			want = showLists(p.Domains)
		}
		if got := reduced(t, p); got != want {
			t.Error(apart, got)
		}
	}
	p := problem(alike(50, span(0, 99)))
	for k := range 50 {
		p.Constraints = append(p.Constraints, equal(-1, by(1, 0, 1, -2), k, (k+1)%50, (k+2)%50, (k+3)%50), equal(-1, by(2, 0, 1, -3), k, (k+1)%50, (k+7)%50, (k+3)%50))
	}
	if got := reduced(t, p); got != "none" {
		t.Error(got)
	}
}

// TestManyDiffer: as many variables as may be, and each number of one that another one cannot have.
func TestManyDiffer(t *testing.T) {
	p := problem(nil)
	for v := range 50 {
		p.Domains = append(p.Domains, span(0, int64(min(99, 2*v))))
	}
	for v := range 43 {
		p.Constraints = append(p.Constraints, differ(v+7, v, v+6, v+1, v+5, v+2, v+4, v+3))
	}
	for v := range 49 {
		p.Constraints = append(p.Constraints, atMost(0, by(1, -1), v, v+1))
	}
	first := make([]int64, 50)
	for v := range first {
		first[v] = int64(v)
	}
	l := solved(t, p, 100)
	areSolutions(t, p, l)
	if len(l) != 100 || showNumbers(l[0]) != showNumbers(first) {
		t.Error(len(l), showLists(l[:1]))
	}
	// Each is above the one ahead of it, and the last one leaves room for that just once.
	for v := range 49 {
		p.Constraints[43+v].C = -1
	}
	p.Domains[49] = span(0, 49)
	if got := showLists(solved(t, p, 2)); got != "["+showNumbers(first)+"]" {
		t.Error(got)
	}
	p.Domains[49] = span(0, 48)
	if got := solved(t, p, 2); len(got) != 0 {
		t.Error(showLists(got))
	}
}

// loose are many variables with many numbers, which lean on each other little; ones behind them are those of another problem.
func loose(count int, core api.Problem) api.Problem {
	p := problem(append(alike(count, span(0, 99)), core.Domains...))
	for v := range count - 1 {
		p.Constraints = append(p.Constraints, atMost(50, by(1, -1), v, v+1))
	}
	for _, c := range core.Constraints {
		own := c
		own.Vars = nil
		for _, v := range c.Vars {
			own.Vars = append(own.Vars, v+count)
		}
		p.Constraints = append(p.Constraints, own)
	}
	return p
}

// TestLate: where numbers turn out to be wrong only at the last variables, each choice of those ahead of them would be tried in vain.
func TestLate(t *testing.T) {
	for _, joined := range []bool{false, true} {
		for _, x := range []struct {
			core api.Problem
			ends []int64 // of the first solution
		}{
			{colours(4, 3, everyTwo(4)), nil}, {colours(5, 4, everyTwo(5)), nil}, {colours(7, 2, ring(7)), nil}, {colours(4, 4, everyTwo(4)), span(1, 4)}, {colours(6, 2, ring(6)), by(1, 2, 1, 2, 1, 2)}, {colours(7, 3, ring(7)), by(1, 2, 1, 2, 1, 2, 3)},
		} {
			const count = 40
			p := loose(count, x.core)
			if joined {
				p.Constraints = append(p.Constraints, atMost(500, by(1, 1, -1, -1), count-1, count, count+1, 0), unlike(3, by(1, 1, 1), 3, count, count+2))
			}
			want := 3
			if x.ends == nil {
				want = 0
			}
			l := solved(t, p, 3)
			areSolutions(t, p, l)
			first := showNumbers(append(zeros(count), x.ends...))
			if len(l) != want || want > 0 && !joined && showNumbers(l[0]) != first {
				t.Error(showLists(l), want)
			}
			for _, v := range []int{0, 17, count - 1, count, count + 3} {
				got := best(t, p, v)
				if (got == "none") != (want == 0) || want > 0 && !joined && v < count && got != first {
					t.Error(v, got)
				}
			}
		}
	}
}

// TestEarly: where the first variable's number is wrong for the last ones, which shows only at these, it is not tried with each choice of
// those in between.
func TestEarly(t *testing.T) {
	const count = 40
	core := colours(5, 5, everyTwo(5))
	p := loose(count, core)
	p.Domains[0] = span(0, 5)
	for v := range core.Domains {
		p.Constraints = append(p.Constraints, atMost(1, by(1, -1), count+v, 0))
	}
	// Four colours for five are too few.
	want := showNumbers(slices.Concat(by(4), zeros(count-1), span(1, 5)))
	l := solved(t, p, 3)
	areSolutions(t, p, l)
	if len(l) != 3 || showNumbers(l[0]) != want {
		t.Error(showLists(l), want)
	}
	for _, v := range []int{0, 1, count - 1, count} {
		if got := best(t, p, v); got != want {
			t.Error(v, got)
		}
	}
}

// TestByThemselves: parts that do not lean on each other, their variables by turns: what one part has is not looked for again for each
// solution of another one.
func TestByThemselves(t *testing.T) {
	one := queens(6)
	ones := solved(t, one, greatest)
	p := problem(alike(12, span(1, 6)))
	for part := range 2 {
		for _, c := range one.Constraints {
			own := c
			own.Vars = []int{2*c.Vars[0] + part, 2*c.Vars[1] + part}
			p.Constraints = append(p.Constraints, own)
		}
	}
	var want [][]int64
	for _, x := range ones {
		for _, y := range ones {
			var both []int64
			for k := range x {
				both = append(both, x[k], y[k])
			}
			want = append(want, both)
		}
	}
	slices.SortFunc(want, slices.Compare[[]int64])
	if got := solved(t, p, greatest); showLists(got) != showLists(want) {
		t.Error(showLists(got))
	}
}

// TestManySolutions: all of many, and a few of very many.
func TestManySolutions(t *testing.T) {
	p := problem(alike(16, span(0, 1)))
	if l := solved(t, p, greatest); len(l) != 1<<16 || showNumbers(l[1<<16-1]) != "1 1 1 1 1 1 1 1 1 1 1 1 1 1 1 1" {
		t.Error(len(l))
	}
	p = latin(7)
	l := solved(t, p, 2000)
	areSolutions(t, p, l)
	if len(l) != 2000 || showNumbers(l[0][:14]) != "1 2 3 4 5 6 7 2 1 4 3 6 7 5" {
		t.Error(len(l))
	}
	p = problem(alike(50, span(1, 100)))
	l = solved(t, p, 101)
	if len(l) != 101 || showNumbers(l[100][47:]) != "1 2 1" {
		t.Error(len(l))
	}
}

// TestMemory: what is asked for takes no room, if it is not there.
func TestMemory(t *testing.T) {
	var before, after runtime.MemStats
	runtime.GC()
	runtime.ReadMemStats(&before)
	got := solved(t, queens(6), greatest)
	runtime.ReadMemStats(&after)
	if len(got) != 4 || after.TotalAlloc-before.TotalAlloc > 1<<24 {
		t.Error(len(got), (after.TotalAlloc-before.TotalAlloc)>>10)
	}
}

// plainSolve goes through the numbers of the variables in their order, and looks at each constraint behind the last of its variables.
func plainSolve(p api.Problem, x []int64, v int, tell func(x []int64)) {
	if v == len(p.Domains) {
		tell(x)
		return
	}
	for _, n := range p.Domains[v] {
		x[v] = n
		if !slices.ContainsFunc(p.Constraints, func(c api.Constraint) bool { return len(c.Vars) > 0 && slices.Max(c.Vars) == v && !naiveHolds(c, x) }) {
			plainSolve(p, x, v+1, tell)
		}
	}
}

// TestManyVariablesByChance holds what is answered of more variables than all choices can be gone through of against plain searching.
func TestManyVariablesByChance(t *testing.T) {
	t.Parallel()
	x := chance(72)
	some, none := 0, 0
	for range 600 {
		vars := 7 + x.below(5)
		p := problem(nil)
		for range vars {
			p.Domains = append(p.Domains, x.numbers(4))
		}
		solution := make([]int64, vars)
		for v, l := range p.Domains {
			if len(l) > 0 {
				solution[v] = pick(&x, l...)
			}
		}
		for len(p.Constraints) < vars {
			// Else there would hardly ever be a solution.
			if c := x.constraint(solution); naiveHolds(c, solution) || x.below(20) == 0 {
				p.Constraints = append(p.Constraints, c)
			}
		}
		var want [][]int64
		plainSolve(p, make([]int64, vars), 0, func(x []int64) { want = append(want, slices.Clone(x)) })
		if got := solved(t, p, greatest); !areSame(got, want) {
			t.Fatalf("%s, not %s, of\n%s", showLists(got), showLists(want), showProblem(p))
		}
		for v := range vars {
			first := "none"
			if len(want) > 0 {
				first = showNumbers(naiveBest(want, v))
			}
			if got := best(t, p, v); got != first {
				t.Fatalf("X%d: %s, not %s, of\n%s", v, got, first, showProblem(p))
			}
		}
		if len(want) > 0 {
			some++
		} else {
			none++
		}
	}
	if some < 120 || none < 120 {
		t.Error(some, none)
	}
}
