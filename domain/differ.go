package domain

import (
	"math/bits"
	"slices"

	"hornbook/api"
)

// differ: no two of the variables are the same number.
type differ struct {
	vars    []int
	numbers [][]int64 // of each of these
}

func newDiffer(c api.Constraint, numbers [][]int64) rule {
	r := &differ{vars: c.Vars}
	for _, v := range c.Vars {
		r.numbers = append(r.numbers, numbers[v])
	}
	return r
}

// narrow goes by what has to be so: where some of the variables have together just as many numbers as they are, the others have none of
// these. What is left by that has support: if some had fewer numbers than they are, one of these would have lost all to the others.
func (r *differ) narrow(d domains) {
	few := r.few(d)
	if few == 0 {
		return
	}
	var room [mostDiffer * mostDiffer]int64
	numbers := r.together(room[:0], d, few)
	own := r.own(d, few, numbers)
	var have [1 << mostDiffer]uint64 // of each choice of some of these variables: which of the numbers they have
	var lost [mostDiffer]uint64      // of each variable
	for choice := few & -few; choice != 0; choice = (choice - few) & few {
		have[choice] = have[choice&(choice-1)] | own[bits.TrailingZeros(uint(choice))]
		if bits.OnesCount64(have[choice]) == bits.OnesCount(uint(choice)) {
			for k := range r.vars {
				if choice>>k&1 == 0 {
					lost[k] |= have[choice]
				}
			}
		}
	}
	for k, gone := range lost[:len(r.vars)] {
		r.remove(d, k, gone, numbers)
	}
}

// few are the variables with fewer numbers than there are variables, as bits: no others can be among some that need all that they have
// and leave another one less.
func (r *differ) few(d domains) int {
	few := 0
	for k, v := range r.vars {
		if d[v].count() < len(r.vars) {
			few |= 1 << k
		}
	}
	return few
}

// together are the numbers of a few variables, rising, behind a list of none: fewer than a word has bits.
func (r *differ) together(l []int64, d domains, few int) []int64 {
	for k, v := range r.vars {
		if few>>k&1 == 1 {
			for place := range d[v].all() {
				l = append(l, r.numbers[k][place])
			}
		}
	}
	slices.Sort(l)
	return slices.Compact(l)
}

// own says of each of a few variables which of the numbers it has, as bits.
func (r *differ) own(d domains, few int, numbers []int64) [mostDiffer]uint64 {
	var own [mostDiffer]uint64
	for k, v := range r.vars {
		if few>>k&1 == 1 {
			for place := range d[v].all() {
				at, _ := slices.BinarySearch(numbers, r.numbers[k][place])
				own[k] |= 1 << at
			}
		}
	}
	return own
}

// remove takes those of the numbers that are gone from a variable.
func (r *differ) remove(d domains, k int, gone uint64, numbers []int64) {
	for ; gone != 0; gone &= gone - 1 {
		if place, is := slices.BinarySearch(r.numbers[k], numbers[bits.TrailingZeros64(gone)]); is {
			d[r.vars[k]].remove(place)
		}
	}
}
