package domain

import (
	"iter"
	"slices"
)

// solutions yields all of them, by the number of the first variable of an order, then of the second, and so on.
func (n *network) solutions(order []int) iter.Seq[[]int64] {
	return func(yield func(solution []int64) bool) {
		d, ok := n.reduced()
		if !ok {
			return
		}
		known := slices.Clone(d)
		if n.settle(known, n.open(d)) {
			n.walk(d, known, order, yield)
		}
	}
}

// walk goes through the solutions within domains, of which one is known; false, if no more are wanted. It goes no way on which there
// is none: so in whatever order it has to go, in which numbers may turn out to be wrong only far on, it comes to solutions all the time.
func (n *network) walk(d, known domains, order []int, yield func(solution []int64) bool) bool {
	open := n.open(d)
	for len(order) > 0 && !open.has(order[0]) {
		order = order[1:]
	}
	if len(order) == 0 {
		return yield(n.only(d))
	}
	v := order[0]
	group := n.group(v, open)
	some := n.shared(v, group)
	for place := range d[v].all() {
		next, ok := n.with(d, v, place, some)
		if !ok {
			continue
		}
		own := known
		if !known[v].has(place) {
			// What does not lean on this variable is as it was.
			own = joined(next, known, group)
			if !n.settle(own, n.open(own)) {
				continue
			}
		}
		if !n.walk(next, own, order[1:], yield) {
			return false
		}
	}
	return true
}

// joined are in some variables as the ones are, in the others as the others.
func joined(ones, others domains, vars set) domains {
	d := slices.Clone(others)
	for v := range vars.all() {
		d[v] = ones[v]
	}
	return d
}

// with are domains in which a variable is at a place, and some parts say what else that takes out.
func (n *network) with(d domains, v, place int, some set) (next domains, ok bool) {
	next = slices.Clone(d)
	next[v] = only(place)
	return next, n.narrow(next, some)
}

// shared are the parts of a variable that others of its group are in too. In any other part all else is one number, of which each number
// of the variable has support.
func (n *network) shared(v int, group set) set {
	group.remove(v)
	var some set
	for k := range n.of[v].all() {
		if slices.ContainsFunc(n.parts[k].vars, group.has) {
			some.add(k)
		}
	}
	return some
}

// open are the variables that may still be more than one number.
func (n *network) open(d domains) set {
	var s set
	for v := range d {
		if d[v].count() > 1 {
			s.add(v)
		}
	}
	return s
}

// settle picks numbers for open variables, so that domains are those of a solution in these; not ok, if there is none. Variables
// that lean on each other are settled by themselves: so what fails for some is not tried again with each of the others' solutions.
func (n *network) settle(d domains, open set) bool {
	for !open.isEmpty() {
		group := n.group(open.least(), open)
		if !n.settleGroup(d, group) {
			return false
		}
		open = open.without(group)
	}
	return true
}

// group of an open variable: those that lean on it, perhaps by way of others that do.
func (n *network) group(v int, open set) set {
	group := only(v)
	for todo := group; !todo.isEmpty(); {
		next := todo.least()
		todo.remove(next)
		more := n.near[next].within(open).without(group)
		group = group.with(more)
		todo = todo.with(more)
	}
	return group
}

// settleGroup takes the numbers of a variable one by one; where one fails, it is no number of this variable any more, and perhaps
// another variable is harder then.
func (n *network) settleGroup(d domains, group set) bool {
	for !group.isEmpty() {
		v := n.hardest(d, group)
		place, some := d[v].least(), n.shared(v, group)
		if next, ok := n.with(d, v, place, some); ok && n.settle(next, n.open(next).within(group)) {
			copy(d, next)
			return true
		}
		d[v].remove(place)
		if !n.narrow(d, some) {
			return false
		}
		group = group.within(n.open(d))
	}
	return true
}

// hardest of some open variables: one with few numbers whose constraints failed often.
func (n *network) hardest(d domains, vars set) int {
	best := vars.least()
	for v := range vars.all() {
		if d[v].count()*n.failed[best] < d[best].count()*n.failed[v] {
			best = v
		}
	}
	return best
}

// only is the one number that is left of each variable.
func (n *network) only(d domains) []int64 {
	l := make([]int64, len(n.numbers))
	for v := range l {
		l[v] = n.numbers[v][d[v].least()]
	}
	return l
}
