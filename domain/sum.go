package domain

import (
	"slices"

	"hornbook/api"
)

// summand of a sum: a variable, and what it comes to at each place of its domain.
type summand struct {
	v     int
	worth []int64
}

// summandsOf a sum: a variable that stands in it more than once is one of them.
func summandsOf(c api.Constraint, numbers [][]int64) []summand {
	var l []summand
	for k, v := range c.Vars {
		at := slices.IndexFunc(l, func(x summand) bool { return x.v == v })
		if at < 0 {
			at = len(l)
			l = append(l, summand{v, make([]int64, len(numbers[v]))})
		}
		for place, number := range numbers[v] {
			l[at].worth[place] += c.Coefs[k] * number
		}
	}
	return l
}

// newSum is the rule that a sum is.
func newSum(c api.Constraint, numbers [][]int64, met *sums) rule {
	l := summandsOf(c, numbers)
	switch c.Op {
	case api.AtMost:
		return &atMost{l, c.C}
	case api.Unlike:
		return &unlike{l, c.C}
	}
	return &equal{l, c.C, met}
}

// atMost: the summands come to c at most.
type atMost struct {
	of []summand
	c  int64
}

func (r *atMost) narrow(d domains) {
	var least [mostSummed]int64
	room := r.c // how much more than the least a summand may be
	for k, x := range r.of {
		least[k] = x.least(d[x.v])
		room -= least[k]
	}
	for k, x := range r.of {
		for place := range d[x.v].all() {
			if x.worth[place]-least[k] > room {
				d[x.v].remove(place)
			}
		}
	}
}

// least that a summand comes to.
func (x summand) least(left set) int64 {
	n := x.worth[left.least()]
	for place := range left.all() {
		n = min(n, x.worth[place])
	}
	return n
}

// unlike: the summands do not come to c.
type unlike struct {
	of []summand
	c  int64
}

func (r *unlike) narrow(d domains) {
	rest := r.c
	open := -1
	for k, x := range r.of {
		switch left := d[x.v]; {
		case x.isOne(left):
			rest -= x.worth[left.least()]
		case open >= 0:
			return // either makes up for whatever the other one is
		default:
			open = k
		}
	}
	if open >= 0 {
		x := r.of[open]
		d[x.v] = x.unlike(d[x.v], rest)
	} else if rest == 0 {
		d[r.of[0].v] = set{}
	}
}

// isOne: does a summand come to the same, whichever its number is?
func (x summand) isOne(left set) bool {
	for place := range left.all() {
		if x.worth[place] != x.worth[left.least()] {
			return false
		}
	}
	return true
}

// unlike are the places at which a summand does not come to n.
func (x summand) unlike(left set, n int64) set {
	for place := range left.all() {
		if x.worth[place] == n {
			left.remove(place)
		}
	}
	return left
}

// equal: the summands come to c.
type equal struct {
	of  []summand
	c   int64
	met *sums
}

// side is a summand while support is looked for; one without a variable comes to 0.
type side struct {
	v     int
	worth []int64
	left  set
	found set // those of left that have support
}

func (r *equal) narrow(d domains) {
	sides := r.sides(d)
	// So it takes no more than going through the numbers of two at a time.
	r.meet(&sides[0], &sides[3], &sides[1], &sides[2])
	r.meet(&sides[1], &sides[2], &sides[0], &sides[3])
	for k := range sides {
		if sides[k].v >= 0 {
			d[sides[k].v] = sides[k].found
		}
	}
}

// sides are four, those with most numbers first: so the first with the last and the other two make the least pairs.
func (r *equal) sides(d domains) [mostSummed]side {
	var l [mostSummed]side
	for k := range l {
		if k < len(r.of) {
			l[k] = side{v: r.of[k].v, worth: r.of[k].worth, left: d[r.of[k].v]}
		} else {
			l[k] = side{v: -1, worth: []int64{0}, left: only(0)}
		}
	}
	slices.SortFunc(l[:], func(x, y side) int { return y.left.count() - x.left.count() })
	return l
}

// meet finds those of a and b that come to the sum with some of x and y.
func (r *equal) meet(a, b, x, y *side) {
	r.met.begin(x.left.count() * y.left.count())
	for i := range x.left.all() {
		for j := range y.left.all() {
			r.met.add(x.worth[i] + y.worth[j])
		}
	}
	for i := range a.left.all() {
		for todo := b.left; !todo.isEmpty(); {
			j := todo.least()
			todo.remove(j)
			if r.met.has(r.c - a.worth[i] - b.worth[j]) {
				a.found.add(i)
				b.found.add(j)
				// From here on i is no reason to look at those that are found.
				todo = todo.without(b.found)
			}
		}
	}
}
