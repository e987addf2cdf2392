package domain_test

import (
	"slices"
	"testing"

	"hornbook/api"
	"hornbook/domain"
)

// check holds what all calls say of a problem against what they must: each says Check's error first.
func check(t *testing.T, want api.Errno, p api.Problem) {
	t.Helper()
	if got := domain.Check(p); got != want {
		t.Errorf("%v, not %v, of\n%s", got, want, showProblem(p))
	}
	if want == api.OK {
		return
	}
	if l, ok, err := domain.Reduce(p); err != want || ok || l != nil {
		t.Errorf("Reduce: %v, %v, %s, not %v, of\n%s", err, ok, showLists(l), want, showProblem(p))
	}
	for _, most := range []int{least, -1, 0, 1, 5, greatest} {
		if l, err := domain.Solve(p, most); err != want || l != nil {
			t.Errorf("Solve: %v, %s, not %v, of\n%s", err, showLists(l), want, showProblem(p))
		}
	}
	for _, v := range []int{least, -1, 0, 1, 60, greatest} {
		if l, ok, err := domain.Best(p, v); err != want || ok || l != nil {
			t.Errorf("Best: %v, %v, %s, not %v, of\n%s", err, ok, showNumbers(l), want, showProblem(p))
		}
	}
}

// digits are three variables and their domains.
func digits() [][]int64 { return alike(3, span(0, 9)) }

// changed is a constraint with something done to it.
func changed(c api.Constraint, do func(c *api.Constraint)) api.Constraint {
	do(&c)
	return c
}

func zeros(n int) []int64 { return make([]int64, n) }

// fine are constraints on three variables.
func fine() []api.Constraint {
	return []api.Constraint{
		equal(3, by(1), 0), equal(0, by(0), 2), atMost(-5, by(1, 2), 0, 1), unlike(7, by(1, -2, 3), 2, 0, 1), equal(0, by(1, 1, 1, 1), 0, 1, 2, 0), equal(0, by(1, 1, 1, 1), 1, 1, 1, 1),
		atMost(1000000000000, by(1000, -1000), 0, 1), unlike(-1000000000000, by(-1000), 1),
		differ(), {Kind: api.Differ, Vars: []int{}, Coefs: []int64{}}, differ(2), differ(2, 0), differ(0, 2, 1),
		times(0, 1, 2), times(2, 1, 0), times(0, 0, 1), times(0, 1, 0), times(1, 0, 0), times(2, 2, 2), {Kind: api.Times, Vars: []int{0, 1, 2}, Coefs: []int64{}},
		pickOf(nil, 0, 1), pickOf(by(), 0, 1), pickOf(by(5), 1, 0), pickOf(by(5, 4, 5, -1), 2, 1), pickOf(by(-1000000, 1000000), 0, 2), pickOf(zeros(100), 0, 1), pickOf(by(0, 1, 3), 1, 1),
	}
}

// wrong are constraints that are none on three variables.
func wrong() []api.Constraint {
	l := []api.Constraint{
		{}, {Kind: -1}, {Kind: 5}, {Kind: least}, {Kind: greatest}, {Kind: 0, Vars: []int{0, 1}}, {Kind: 5, Vars: []int{0}, Coefs: by(1), Op: api.Equal}, {Kind: 6, Vars: []int{0, 1, 2}},
		// Not as many Vars as there may be.
		{Kind: api.Sum, Op: api.Equal}, equal(0, by()), atMost(0, nil), equal(0, by(1, 1, 1, 1, 1), 0, 1, 2, 0, 1), unlike(0, zeros(100), make([]int, 100)...),
		{Kind: api.Times}, {Kind: api.Times, Vars: []int{0, 1}}, {Kind: api.Times, Vars: []int{0, 1, 2, 0}}, {Kind: api.Pick}, {Kind: api.Pick, Coefs: by(1)}, {Kind: api.Pick, Vars: []int{0}, Coefs: by(1)}, {Kind: api.Pick, Vars: []int{0, 1, 2}, Coefs: by(1)},
		// Not as many Coefs.
		equal(0, by(), 0), equal(0, nil, 0, 1), equal(0, by(1), 0, 1), equal(0, by(1, 2, 3), 0, 1), equal(0, by(1, 1, 1, 1, 1), 0, 1, 2, 0), pickOf(zeros(101), 0, 1), pickOf(zeros(1000), 0, 1),
		// A Coef, an Op or a C that may not be.
		equal(0, by(1001), 0), equal(0, by(-1001), 0), atMost(0, by(1, 1001), 0, 1), unlike(0, by(1, 1, 1, least), 0, 1, 2, 1), equal(0, by(greatest), 0),
		sum(0, 0, by(1), 0), sum(4, 0, by(1), 0), sum(-1, 0, by(1), 0), sum(least, 0, by(1), 0), sum(greatest, 0, by(1), 0),
		equal(1000000000001, by(1), 0), equal(-1000000000001, by(1), 0), atMost(greatest, by(1), 0), unlike(least, by(1), 0),
		pickOf(by(1000001), 0, 1), pickOf(by(-1000001), 0, 1), pickOf(by(1, 2, greatest), 0, 1), pickOf(by(least, 2), 0, 1),
		// One twice.
		differ(0, 0), differ(0, 1, 0), differ(2, 1, 1), differ(0, 1, 2, 2),
	}
	for _, c := range fine() {
		if c.Kind != api.Sum {
			l = append(l, changed(c, func(c *api.Constraint) { c.Op = api.Equal }), changed(c, func(c *api.Constraint) { c.Op = -1 }), changed(c, func(c *api.Constraint) { c.C = 1 }), changed(c, func(c *api.Constraint) { c.C = -1 }))
		}
		if c.Kind == api.Differ || c.Kind == api.Times {
			l = append(l, changed(c, func(c *api.Constraint) { c.Coefs = by(0) }), changed(c, func(c *api.Constraint) { c.Coefs = zeros(len(c.Vars) + 1) }))
		}
		// A variable that there is not.
		for k := range c.Vars {
			for _, v := range []int{least, -1, 3, 50, greatest} {
				l = append(l, changed(c, func(c *api.Constraint) {
					c.Vars = slices.Clone(c.Vars)
					c.Vars[k] = v
				}))
			}
		}
	}
	return l
}

func TestConstraints(t *testing.T) {
	check(t, api.OK, problem(digits()))
	check(t, api.OK, problem(digits(), fine()...))
	for _, c := range fine() {
		check(t, api.OK, problem(digits(), c))
		check(t, api.OK, problem(digits(), differ(1, 2), c, times(0, 1, 2)))
		if len(c.Vars) > 0 {
			check(t, api.ErrArg, problem(nil, c))
			check(t, api.ErrArg, problem(digits()[:slices.Max(c.Vars)], c))
		}
	}
	for _, c := range wrong() {
		check(t, api.ErrArg, problem(digits(), c))
		check(t, api.ErrArg, problem(digits(), append(fine(), c)...))
		check(t, api.ErrArg, problem(digits(), append([]api.Constraint{c}, fine()...)...))
	}
}

// TestSizesOfConstraints: how many Vars there may be, where they are many.
func TestSizesOfConstraints(t *testing.T) {
	for n := range 20 {
		d := alike(20, span(0, 30))
		vars := make([]int, n)
		for k := range vars {
			vars[k] = 19 - k
		}
		is := func(ok bool) api.Errno {
			if ok {
				return api.OK
			}
			return api.ErrArg
		}
		check(t, is(n >= 1 && n <= 4), problem(d, equal(0, zeros(n), vars...)))
		check(t, is(n <= 8), problem(d, differ(vars...)))
		check(t, is(n == 3), problem(d, api.Constraint{Kind: api.Times, Vars: vars}))
		check(t, is(n == 2), problem(d, api.Constraint{Kind: api.Pick, Vars: vars}))
		check(t, is(n == 2), problem(d, api.Constraint{Kind: api.Pick, Vars: vars, Coefs: by(3, 4)}))
		for m := range n + 3 {
			check(t, is(n >= 1 && n <= 4 && m == n), problem(d, equal(0, zeros(m), vars...)))
		}
		if n > 1 {
			again := slices.Clone(vars)
			again[n-1] = again[0]
			check(t, is(n <= 4), problem(d, equal(0, zeros(n), again...)))
			check(t, api.ErrArg, problem(d, differ(again...)))
		}
	}
}

func TestDomains(t *testing.T) {
	for _, l := range [][]int64{nil, {}, {0}, {-1000000}, {1000000}, {-1000000, 1000000}, {-3, -2, 0, 7}, span(1, 100), span(-100, -1)} {
		check(t, api.OK, problem([][]int64{l}))
		check(t, api.OK, problem([][]int64{{1}, l, {2}}, differ(0, 1)))
	}
	for _, l := range [][]int64{{1, 1}, {1, 0}, {0, 1, 1}, {0, 2, 1}, {1000001}, {-1000001}, {greatest}, {least}, {least, greatest}, {-1000001, 3}, {3, 1000001}, {greatest, least}, {0, 1, 2, 3, 3}, {0, 0, 1, 2}} {
		check(t, api.ErrArg, problem([][]int64{l}))
		check(t, api.ErrArg, problem([][]int64{{1}, l, {2}}, differ(0, 2)))
		check(t, api.ErrArg, problem([][]int64{{}, {1}, l}))
	}
}

// TestLarge: a problem of each size that may be, and of one more; what is not so comes ahead of what is too large.
func TestLarge(t *testing.T) {
	many := func(n int) []api.Constraint {
		var l []api.Constraint
		for k := range n {
			l = append(l, fine()[k%len(fine())])
		}
		return l
	}
	check(t, api.OK, problem(alike(50, span(1, 100)), many(100)...))
	for _, p := range []api.Problem{
		problem(alike(51, span(1, 2))), problem(alike(51, nil)), problem(alike(1000, span(1, 1))), problem(alike(51, span(0, 3)), equal(0, by(1), 50)),
		problem(digits(), many(101)...), problem(nil, alikeConstraints(101, differ())...), problem(digits(), many(5000)...),
		problem([][]int64{span(0, 100)}), problem([][]int64{{1}, span(-1000, 1000), {2}}), problem(append(alike(49, nil), span(0, 100))),
		problem(alike(51, span(0, 100)), many(101)...),
	} {
		check(t, api.ErrLarge, p)
		for k, c := range wrong() {
			// Of many variables, those with numbers from 3 on are fine.
			if !slices.ContainsFunc(c.Vars, func(v int) bool { return v >= 3 }) {
				own := p
				own.Constraints = slices.Insert(slices.Clone(own.Constraints), k%(len(own.Constraints)+1), c)
				check(t, api.ErrArg, own)
			}
		}
		for _, l := range [][]int64{{1, 1}, {2, 1}, {1000001}, append(span(999000, 1000000), 1000001), append(span(0, 200), 200)} {
			own := p
			own.Domains = append(slices.Clone(own.Domains), l)
			check(t, api.ErrArg, own)
		}
	}
}

func alikeConstraints(count int, c api.Constraint) []api.Constraint {
	var l []api.Constraint
	for range count {
		l = append(l, c)
	}
	return l
}

// spoil does something to a problem that may make it none, or a large one.
func (x *chance) spoil(p *api.Problem) {
	number := func() int64 {
		return pick[int64](x, 0, 1, -1, 4, 7, 50, 1000, 1001, 1000000, 1000001, 1000000000000, 1000000000001, greatest) * pick[int64](x, 1, -1)
	}
	if len(p.Domains) > 0 && x.below(3) == 0 {
		l := slices.Clone(p.Domains[x.below(len(p.Domains))])
		if len(l) > 0 && x.below(2) == 0 {
			l[x.below(len(l))] = number()
		} else {
			l = append(l, number())
		}
		p.Domains[x.below(len(p.Domains))] = l
		return
	}
	if len(p.Constraints) == 0 {
		return
	}
	c := &p.Constraints[x.below(len(p.Constraints))]
	switch x.below(8) {
	case 0:
		c.Kind = x.below(7) - 1
	case 1:
		c.Op = x.below(6) - 1
	case 2:
		c.C = number()
	case 3:
		c.Coefs = append(slices.Clone(c.Coefs), number())
	case 4:
		c.Vars = append(slices.Clone(c.Vars), x.below(len(p.Domains)+1))
	case 5:
		c.Vars = slices.Clone(c.Vars[:x.below(len(c.Vars)+1)])
	case 6:
		c.Coefs = slices.Clone(c.Coefs[:x.below(len(c.Coefs)+1)])
	case 7:
		c.Vars = append(slices.Clone(c.Vars), pick(x, -1, 0, 1, 2, 50))
		c.Coefs = append(slices.Clone(c.Coefs), number())
	}
}

// TestCheckByChance holds it against the document, word by word.
func TestCheckByChance(t *testing.T) {
	t.Parallel()
	x := chance(61)
	told := map[api.Errno]int{}
	for range 60000 {
		p := x.problem()
		for range x.below(3) {
			x.spoil(&p)
		}
		if x.below(5) == 0 {
			p.Domains = append(p.Domains, alike(pick(&x, 1, 48, 50), span(0, int64(pick(&x, 5, 99, 100))))...)
		}
		if x.below(5) == 0 {
			p.Constraints = append(p.Constraints, alikeConstraints(pick(&x, 1, 90, 97, 100), differ())...)
		}
		want := naiveCheck(p)
		if got := domain.Check(p); got != want {
			t.Fatalf("%v, not %v, of\n%s", got, want, showProblem(p))
		}
		told[want]++
	}
	if told[api.OK] < 5000 || told[api.ErrArg] < 5000 || told[api.ErrLarge] < 5000 {
		t.Error(told)
	}
}
