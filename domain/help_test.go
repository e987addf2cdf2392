package domain_test

import (
	"slices"
	"strconv"
	"strings"
	"testing"

	"hornbook/api"
	"hornbook/domain"
)

const (
	least    = -1 << 63
	greatest = 1<<63 - 1
)

// span are the numbers from one to another.
func span(from, to int64) []int64 {
	l := []int64{}
	for k := from; k <= to; k++ {
		l = append(l, k)
	}
	return l
}

// alike are so many domains of the same numbers.
func alike(count int, l []int64) [][]int64 {
	var out [][]int64
	for range count {
		out = append(out, l)
	}
	return out
}

func sum(op int, to int64, coefs []int64, vars ...int) api.Constraint {
	return api.Constraint{Kind: api.Sum, Vars: vars, Coefs: coefs, Op: op, C: to}
}

func equal(to int64, coefs []int64, vars ...int) api.Constraint {
	return sum(api.Equal, to, coefs, vars...)
}

func atMost(to int64, coefs []int64, vars ...int) api.Constraint {
	return sum(api.AtMost, to, coefs, vars...)
}

func unlike(to int64, coefs []int64, vars ...int) api.Constraint {
	return sum(api.Unlike, to, coefs, vars...)
}

func differ(vars ...int) api.Constraint {
	return api.Constraint{Kind: api.Differ, Vars: vars}
}

func times(x, y, z int) api.Constraint {
	return api.Constraint{Kind: api.Times, Vars: []int{x, y, z}}
}

func pickOf(coefs []int64, x, y int) api.Constraint {
	return api.Constraint{Kind: api.Pick, Vars: []int{x, y}, Coefs: coefs}
}

func problem(domains [][]int64, constraints ...api.Constraint) api.Problem {
	return api.Problem{Domains: domains, Constraints: constraints}
}

// by are coefs.
func by(l ...int64) []int64 { return l }

func showNumbers(l []int64) string {
	out := make([]string, len(l))
	for k, n := range l {
		out[k] = strconv.FormatInt(n, 10)
	}
	return strings.Join(out, " ")
}

func areSame(a, b [][]int64) bool {
	return slices.EqualFunc(a, b, slices.Equal[[]int64])
}

func showLists(l [][]int64) string {
	out := make([]string, len(l))
	for k, x := range l {
		out[k] = showNumbers(x)
	}
	return "[" + strings.Join(out, "; ") + "]"
}

func showProblem(p api.Problem) string {
	var out strings.Builder
	for v, l := range p.Domains {
		out.WriteString("X" + strconv.Itoa(v) + ": " + showNumbers(l) + "\n")
	}
	for _, c := range p.Constraints {
		out.WriteString("kind " + strconv.Itoa(c.Kind) + " vars")
		for _, v := range c.Vars {
			out.WriteString(" " + strconv.Itoa(v))
		}
		out.WriteString(" coefs " + showNumbers(c.Coefs) + " op " + strconv.Itoa(c.Op) + " c " + strconv.FormatInt(c.C, 10) + "\n")
	}
	return out.String()
}

// reduced are the domains of a problem; "none", if one is empty.
func reduced(t *testing.T, p api.Problem) string {
	t.Helper()
	got, ok, err := domain.Reduce(p)
	if err != api.OK || !ok && got != nil {
		t.Fatalf("%v, %v, %s of\n%s", err, ok, showLists(got), showProblem(p))
	}
	if !ok {
		return "none"
	}
	return showLists(got)
}

func solved(t *testing.T, p api.Problem, most int) [][]int64 {
	t.Helper()
	got, err := domain.Solve(p, most)
	if err != api.OK {
		t.Fatalf("%v of\n%s", err, showProblem(p))
	}
	return got
}

// best is a problem's best solution for v; "none", if there is none.
func best(t *testing.T, p api.Problem, v int) string {
	t.Helper()
	got, ok, err := domain.Best(p, v)
	if err != api.OK || !ok && got != nil {
		t.Fatalf("%v, %v, %s of\n%s", err, ok, showNumbers(got), showProblem(p))
	}
	if !ok {
		return "none"
	}
	return showNumbers(got)
}

// chance is a source of numbers that are the same ones each time.
type chance uint64

func (x *chance) below(n int) int {
	*x = *x*6364136223846793005 + 1442695040888963407
	return int(uint64(*x) >> 33 % uint64(n))
}

func pick[T any](x *chance, l ...T) T {
	return l[x.below(len(l))]
}

// order of so many.
func (x *chance) order(n int) []int {
	l := make([]int, n)
	for k := range l {
		m := x.below(k + 1)
		l[k], l[m] = l[m], k
	}
	return l
}
