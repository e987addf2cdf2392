package domain_test

import (
	"slices"
	"testing"

	"hornbook/api"
	"hornbook/domain"
)

// numbers are some of few, rising; now and then none.
func (x *chance) numbers(most int) []int64 {
	from, step := int64(x.below(7)-3), int64(pick(x, 1, 1, 1, 2, 3))
	if x.below(20) == 0 {
		from, step = pick[int64](x, -1000000, 999900, 500000), 10
	}
	var l []int64
	for k := range int64(most + 3) {
		if n := from + k*step; x.below(3) > 0 && len(l) < most && n <= 1000000 {
			l = append(l, n)
		}
	}
	if len(l) == 0 && x.below(20) > 0 {
		return by(from)
	}
	return l
}

// vars are so many of the variables, some perhaps twice.
func (x *chance) vars(count, vars int) []int {
	l := make([]int, count)
	for k := range l {
		l[k] = x.below(vars)
	}
	return l
}

// constraint on variables, of which there is one at least; many hold with some numbers for these.
func (x *chance) constraint(some []int64) api.Constraint {
	switch pick(x, api.Sum, api.Sum, api.Sum, api.Sum, api.Differ, api.Differ, api.Times, api.Pick) {
	case api.Differ:
		l := x.order(len(some))
		return differ(l[:min(8, x.below(len(l)+1))]...)
	case api.Times:
		return api.Constraint{Kind: api.Times, Vars: x.vars(3, len(some))}
	case api.Pick:
		coefs := make([]int64, pick(x, 2, 4, 6, 9, 9, 0))
		for k := range coefs {
			coefs[k] = int64(x.below(9) - 3)
		}
		from, to := x.below(len(some)), x.below(len(some))
		if k := some[from]; k >= 0 && k < int64(len(coefs)) {
			coefs[k] = some[to]
		}
		return pickOf(coefs, from, to)
	}
	c := api.Constraint{Kind: api.Sum, Vars: x.vars(1+x.below(4), len(some)), Op: 1 + x.below(3), C: pick[int64](x, 0, 0, 0, 0, 1, -1, -5, 5, 10, -1000000)}
	for _, v := range c.Vars {
		coef := pick[int64](x, 1, 1, 1, -1, -1, 2, -2, 3, 0, 10, 1000, -1000)
		c.Coefs = append(c.Coefs, coef)
		c.C += coef * some[v]
	}
	return c
}

// problem of few variables with few numbers.
func (x *chance) problem() api.Problem {
	var p api.Problem
	for range pick(x, 0, 1, 2, 2, 3, 3, 4, 4, 5, 5, 6) {
		p.Domains = append(p.Domains, x.numbers(pick(x, 2, 4, 4, 6)))
	}
	some := make([]int64, len(p.Domains))
	for v, l := range p.Domains {
		if len(l) > 0 {
			some[v] = pick(x, l...)
		}
	}
	for range pick(x, 0, 1, 1, 2, 2, 3, 4, 6) {
		if len(some) == 0 {
			p.Constraints = append(p.Constraints, differ())
		} else {
			p.Constraints = append(p.Constraints, x.constraint(some))
		}
	}
	return p
}

// small is a problem with so few choices of numbers that all can be gone through.
func (x *chance) small() api.Problem {
	for {
		p := x.problem()
		choices := 1
		for _, l := range p.Domains {
			choices *= len(l)
		}
		if choices <= 2000 {
			return p
		}
	}
}

// crowded is a problem of variables with few numbers together, of which many must differ.
func (x *chance) crowded() api.Problem {
	var p api.Problem
	vars := 2 + x.below(7)
	some := pick(x, 2, 3, 4)
	for range vars {
		l := by(int64(x.below(vars)))
		for n := l[0] + 1; n < int64(vars); n++ {
			if x.below(vars) < some && len(l) < some {
				l = append(l, n)
			}
		}
		p.Domains = append(p.Domains, l)
	}
	for range 1 + x.below(4) {
		p.Constraints = append(p.Constraints, differ(x.order(vars)[:min(vars, 2+x.below(vars))]...))
	}
	return p
}

// heldReduced holds Reduce against the document, and gives how many numbers were taken out, and are left.
func heldReduced(t *testing.T, p api.Problem) (gone, left int) {
	t.Helper()
	want, is := naiveReduce(p)
	got, ok, err := domain.Reduce(p)
	if err != api.OK || ok != is || showLists(got) != showLists(want) || !ok && got != nil {
		t.Fatalf("%v, %v, %s, not %v, %s, of\n%s", err, ok, showLists(got), is, showLists(want), showProblem(p))
	}
	for v := range want {
		left += len(want[v])
		gone += len(p.Domains[v]) - len(want[v])
	}
	return gone, left
}

func TestReduceByChance(t *testing.T) {
	t.Parallel()
	x := chance(62)
	some, all, none := 0, 0, 0
	for range 20000 {
		switch gone, left := heldReduced(t, x.problem()); {
		case left == 0:
			none++
		case gone == 0:
			all++
		default:
			some++
		}
	}
	if some < 4000 || all < 2000 || none < 4000 {
		t.Error(some, all, none)
	}
}

func TestReduceCrowdedByChance(t *testing.T) {
	t.Parallel()
	x := chance(63)
	some, none := 0, 0
	for range 3000 {
		gone, left := heldReduced(t, x.crowded())
		if left == 0 {
			none++
		} else if gone > 0 {
			some++
		}
	}
	if some < 500 || none < 500 {
		t.Error(some, none)
	}
}

// wide is a problem of few variables with about as many numbers as may be.
func (x *chance) wide() api.Problem {
	var p api.Problem
	var some []int64
	for range 2 + x.below(2) {
		gaps, count := pick(x, 0, 0, 3, 10), pick(x, 63, 64, 65, 90, 100)
		var l []int64
		for n := int64(x.below(60) - 40); len(l) < count; n++ {
			if gaps == 0 || x.below(gaps) > 0 {
				l = append(l, n)
			}
		}
		p.Domains = append(p.Domains, l)
		some = append(some, pick(x, l...))
	}
	for range 1 + x.below(3) {
		c := x.constraint(some)
		if c.Kind == api.Pick {
			c.Coefs = append(c.Coefs, span(int64(x.below(30)), 60)...)
		}
		p.Constraints = append(p.Constraints, c)
	}
	return p
}

func TestReduceWideByChance(t *testing.T) {
	t.Parallel()
	x := chance(68)
	some, none := 0, 0
	for range 3000 {
		gone, left := heldReduced(t, x.wide())
		if left == 0 {
			none++
		} else if gone > 0 {
			some++
		}
	}
	if some < 700 || none < 300 {
		t.Error(some, none)
	}
}

// heldSolved holds Solve and Best against the document, and gives how many solutions there are.
func heldSolved(t *testing.T, p api.Problem) int {
	t.Helper()
	want := naiveSolutions(p)
	for _, most := range []int{least, -1, 0, 1, 2, 3, len(want) - 1, len(want), len(want) + 1, greatest} {
		got := solved(t, p, most)
		if !areSame(got, want[:max(0, min(most, len(want)))]) {
			t.Fatalf("the first %d: %s, not of %s, of\n%s", most, showLists(got), showLists(want), showProblem(p))
		}
	}
	for v := range p.Domains {
		first := "none"
		if len(want) > 0 {
			first = showNumbers(naiveBest(want, v))
		}
		if got := best(t, p, v); got != first {
			t.Fatalf("X%d: %s, not %s, of\n%s", v, got, first, showProblem(p))
		}
	}
	return len(want)
}

func TestSolveByChance(t *testing.T) {
	t.Parallel()
	x := chance(64)
	some, none := 0, 0
	for range 8000 {
		if heldSolved(t, x.small()) > 0 {
			some++
		} else {
			none++
		}
	}
	if some < 1500 || none < 1500 {
		t.Error(some, none)
	}
}

func TestSolveCrowdedByChance(t *testing.T) {
	t.Parallel()
	x := chance(65)
	some, none := 0, 0
	for range 2000 {
		if heldSolved(t, x.crowded()) > 0 {
			some++
		} else {
			none++
		}
	}
	if some < 300 || none < 300 {
		t.Error(some, none)
	}
}

// TestOrderByChance: in which order constraints stand says nothing, nor do those that stand twice, or say nothing.
func TestOrderByChance(t *testing.T) {
	t.Parallel()
	x := chance(66)
	for range 5000 {
		p := x.small()
		q := problem(p.Domains)
		for _, k := range x.order(len(p.Constraints)) {
			q.Constraints = append(q.Constraints, p.Constraints[k])
			if x.below(2) == 0 {
				q.Constraints = append(q.Constraints, p.Constraints[x.below(len(p.Constraints))], differ())
			}
		}
		if reduced(t, p) != reduced(t, q) || !areSame(solved(t, p, 50), solved(t, q, 50)) {
			t.Fatalf("%s\n%s", showProblem(p), showProblem(q))
		}
		for v := range p.Domains {
			if best(t, p, v) != best(t, q, v) {
				t.Fatalf("X%d: %s\n%s", v, showProblem(p), showProblem(q))
			}
		}
	}
}

// TestWhatIsSaidAheadHolds: of every solution the numbers are among those that are left; and with those that are left there are the same
// solutions, and nothing more is taken out.
func TestWhatIsSaidAheadHolds(t *testing.T) {
	t.Parallel()
	x := chance(67)
	met := 0
	for range 5000 {
		p := x.small()
		left, ok, err := domain.Reduce(p)
		all := solved(t, p, greatest)
		if err != api.OK || !ok && len(all) > 0 {
			t.Fatalf("%v, %s of\n%s", err, showLists(all), showProblem(p))
		}
		if !ok {
			continue
		}
		for _, solution := range all {
			for v, n := range solution {
				if !slices.Contains(left[v], n) {
					t.Fatalf("%s, but %s of\n%s", showNumbers(solution), showLists(left), showProblem(p))
				}
			}
			met++
		}
		q := problem(left, p.Constraints...)
		if reduced(t, q) != showLists(left) || !areSame(solved(t, q, greatest), all) {
			t.Fatalf("%s, %s of\n%s", reduced(t, q), showLists(solved(t, q, greatest)), showProblem(p))
		}
	}
	if met < 20000 {
		t.Error(met)
	}
}
