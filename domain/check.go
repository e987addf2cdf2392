package domain

import (
	"slices"

	"hornbook/api"
)

const (
	mostVars        = 50
	mostConstraints = 100
	mostNumbers     = 100 // in a domain

	farthest     = 1000000 // number of a domain from 0
	greatestCoef = 1000
	greatestSum  = 1000000000000
	mostSummed   = 4
	mostDiffer   = 8
	mostPicked   = 100
)

// isProblem: is it one, however large?
func isProblem(p api.Problem) bool {
	for _, l := range p.Domains {
		if !areWithin(farthest, l...) || !isRising(l) {
			return false
		}
	}
	for _, c := range p.Constraints {
		if !isConstraint(c, len(p.Domains)) {
			return false
		}
	}
	return true
}

// isLarge: is a problem larger than may be?
func isLarge(p api.Problem) bool {
	return len(p.Domains) > mostVars || len(p.Constraints) > mostConstraints ||
		slices.ContainsFunc(p.Domains, func(l []int64) bool { return len(l) > mostNumbers })
}

// isConstraint on variables of which there are so many.
func isConstraint(c api.Constraint, vars int) bool {
	for _, v := range c.Vars {
		if v < 0 || v >= vars {
			return false
		}
	}
	switch c.Kind {
	case api.Sum:
		return isSum(c)
	case api.Differ:
		return len(c.Vars) <= mostDiffer && !hasTwice(c.Vars) && len(c.Coefs) == 0 && comparesNothing(c)
	case api.Times:
		return len(c.Vars) == 3 && len(c.Coefs) == 0 && comparesNothing(c)
	case api.Pick:
		return len(c.Vars) == 2 && len(c.Coefs) <= mostPicked && areWithin(farthest, c.Coefs...) && comparesNothing(c)
	}
	return false
}

func isSum(c api.Constraint) bool {
	return len(c.Vars) >= 1 && len(c.Vars) <= mostSummed &&
		len(c.Coefs) == len(c.Vars) && areWithin(greatestCoef, c.Coefs...) &&
		(c.Op == api.Equal || c.Op == api.AtMost || c.Op == api.Unlike) && areWithin(greatestSum, c.C)
}

// comparesNothing: has it neither an Op nor a C?
func comparesNothing(c api.Constraint) bool {
	return c.Op == 0 && c.C == 0
}

// areWithin: is none farther from 0 than that?
func areWithin(most int64, l ...int64) bool {
	return !slices.ContainsFunc(l, func(x int64) bool { return x < -most || x > most })
}

// isRising: does each come ahead of the next one, none twice?
func isRising(l []int64) bool {
	for k := range l {
		if k > 0 && l[k-1] >= l[k] {
			return false
		}
	}
	return true
}

// hasTwice goes through few variables.
func hasTwice(vars []int) bool {
	for k, v := range vars {
		if slices.Contains(vars[:k], v) {
			return true
		}
	}
	return false
}
