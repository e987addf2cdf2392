package domain

import (
	"slices"

	"hornbook/api"
)

// listed: the variables are at the places of one of the rows.
type listed struct {
	vars []int // three at most; where one stands twice, it is at the same place twice in each row
	rows [][]int
}

func (r *listed) narrow(d domains) {
	var found [3]set
	for _, row := range r.rows {
		if r.isLeft(d, row) {
			for k, place := range row {
				found[k].add(place)
			}
		}
	}
	for k, v := range r.vars {
		d[v] = found[k]
	}
}

// isLeft: are all places of a row left?
func (r *listed) isLeft(d domains, row []int) bool {
	for k, place := range row {
		if !d[r.vars[k]].has(place) {
			return false
		}
	}
	return true
}

// newTimes lists what two numbers there are, and the number that is the one times the other.
func newTimes(c api.Constraint, numbers [][]int64) rule {
	r := &listed{vars: c.Vars}
	for i, x := range numbers[c.Vars[0]] {
		for j, y := range numbers[c.Vars[1]] {
			if at, is := slices.BinarySearch(numbers[c.Vars[2]], x*y); is {
				r.add(i, j, at)
			}
		}
	}
	return r
}

// newPick lists at which places of the coefs there are numbers that may be picked.
func newPick(c api.Constraint, numbers [][]int64) rule {
	r := &listed{vars: c.Vars}
	for i, x := range numbers[c.Vars[0]] {
		if x < 0 || x >= int64(len(c.Coefs)) {
			continue
		}
		if at, is := slices.BinarySearch(numbers[c.Vars[1]], c.Coefs[x]); is {
			r.add(i, at)
		}
	}
	return r
}

// add a row, if a variable that stands twice is at one place in it.
func (r *listed) add(row ...int) {
	for k, v := range r.vars {
		if row[slices.Index(r.vars, v)] != row[k] {
			return
		}
	}
	r.rows = append(r.rows, row)
}
