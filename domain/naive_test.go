package domain_test

import (
	"slices"

	"hornbook/api"
)

// This file is the document's chapter word by word.

// naiveHolds: does a constraint hold with these numbers for the variables?
func naiveHolds(c api.Constraint, x []int64) bool {
	switch c.Kind {
	case api.Sum:
		sum := int64(0)
		for k, v := range c.Vars {
			sum += c.Coefs[k] * x[v]
		}
		return c.Op == api.Equal && sum == c.C || c.Op == api.AtMost && sum <= c.C || c.Op == api.Unlike && sum != c.C
	case api.Differ:
		for k, v := range c.Vars {
			for _, w := range c.Vars[:k] {
				if x[v] == x[w] {
					return false
				}
			}
		}
		return true
	case api.Times:
		return x[c.Vars[0]]*x[c.Vars[1]] == x[c.Vars[2]]
	case api.Pick:
		for place, coef := range c.Coefs {
			if int64(place) == x[c.Vars[0]] && coef == x[c.Vars[1]] {
				return true
			}
		}
	}
	return false
}

// naiveChoices calls tell with each choice of a number for each of the variables, by the first one's number, then by the second one's, and
// so on, until it says that it is enough.
func naiveChoices(domains [][]int64, vars []int, x []int64, tell func() bool) bool {
	if len(vars) == 0 {
		return tell()
	}
	for _, n := range domains[vars[0]] {
		x[vars[0]] = n
		if !naiveChoices(domains, vars[1:], x, tell) {
			return false
		}
	}
	return true
}

// naiveSolutions are all of them.
func naiveSolutions(p api.Problem) [][]int64 {
	var vars []int
	for v := range p.Domains {
		vars = append(vars, v)
	}
	var out [][]int64
	x := make([]int64, len(vars))
	naiveChoices(p.Domains, vars, x, func() bool {
		if !slices.ContainsFunc(p.Constraints, func(c api.Constraint) bool { return !naiveHolds(c, x) }) {
			out = append(out, slices.Clone(x))
		}
		return true
	})
	return out
}

// naiveBest is the best of all solutions; nil, if there are none.
func naiveBest(solutions [][]int64, v int) []int64 {
	var best []int64
	for _, x := range solutions {
		if best == nil || x[v] < best[v] {
			best = x
		}
	}
	return best
}

// naiveSupport: has a number of a variable support in a constraint?
func naiveSupport(c api.Constraint, domains [][]int64, v int, n int64) bool {
	var others []int
	for _, w := range c.Vars {
		if w != v && !slices.Contains(others, w) {
			others = append(others, w)
		}
	}
	x := make([]int64, len(domains))
	x[v] = n
	found := false
	naiveChoices(domains, others, x, func() bool {
		found = naiveHolds(c, x)
		return !found
	})
	return found
}

// naiveReduce takes numbers without support out one by one; false, if nothing is left of a domain.
func naiveReduce(p api.Problem) ([][]int64, bool) {
	var domains [][]int64
	for _, l := range p.Domains {
		domains = append(domains, slices.Clone(l))
	}
	for again := true; again; {
		again = false
		for _, c := range p.Constraints {
			for _, v := range c.Vars {
				for _, n := range slices.Clone(domains[v]) {
					if !naiveSupport(c, domains, v, n) {
						at := slices.Index(domains[v], n)
						domains[v] = slices.Delete(domains[v], at, at+1)
						again = true
					}
				}
			}
		}
	}
	if slices.ContainsFunc(domains, func(l []int64) bool { return len(l) == 0 }) {
		return nil, false
	}
	return domains, true
}

// naiveCheck asks for one thing after the other.
func naiveCheck(p api.Problem) api.Errno {
	isDomainNumber := func(n int64) bool { return -1000000 <= n && n <= 1000000 }
	for _, l := range p.Domains {
		for k, n := range l {
			if !isDomainNumber(n) || k > 0 && n <= l[k-1] {
				return api.ErrArg
			}
		}
	}
	for _, c := range p.Constraints {
		twice := false
		for k, v := range c.Vars {
			if v < 0 || v >= len(p.Domains) {
				return api.ErrArg
			}
			twice = twice || slices.Index(c.Vars, v) < k
		}
		fine := false
		switch c.Kind {
		case 1:
			fine = len(c.Vars) >= 1 && len(c.Vars) <= 4 && len(c.Coefs) == len(c.Vars) && c.Op >= 1 && c.Op <= 3 && c.C >= -1000000000000 && c.C <= 1000000000000
			for _, coef := range c.Coefs {
				fine = fine && coef >= -1000 && coef <= 1000
			}
		case 2:
			fine = len(c.Vars) <= 8 && !twice && len(c.Coefs) == 0 && c.Op == 0 && c.C == 0
		case 3:
			fine = len(c.Vars) == 3 && len(c.Coefs) == 0 && c.Op == 0 && c.C == 0
		case 4:
			fine = len(c.Vars) == 2 && len(c.Coefs) <= 100 && c.Op == 0 && c.C == 0
			for _, coef := range c.Coefs {
				fine = fine && isDomainNumber(coef)
			}
		}
		if !fine {
			return api.ErrArg
		}
	}
	if len(p.Domains) > 50 || len(p.Constraints) > 100 || slices.ContainsFunc(p.Domains, func(l []int64) bool { return len(l) > 100 }) {
		return api.ErrLarge
	}
	return api.OK
}
