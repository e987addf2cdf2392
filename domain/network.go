package domain

import (
	"slices"

	"hornbook/api"
)

// domains: of each variable the places, in its domain of the problem, of the numbers that are left.
type domains []set

// rule is a constraint, made ready. Narrow takes all numbers of its variables that have no support in it out of domains of which none
// is empty, so that nothing more is taken out if it is asked again.
type rule interface {
	narrow(d domains)
}

// part of a network: a rule and its variables, of which there are no more than may have to differ.
type part struct {
	rule rule
	vars []int
}

// network: a problem, made ready.
type network struct {
	numbers [][]int64 // of each variable
	parts   []part    // those that take least ahead of the others
	of      []set     // the parts of each variable
	near    []set     // the variables of these
	failed  []int     // how often such a part left one of its variables no number, and 1 more
}

func newNetwork(p api.Problem) *network {
	vars := len(p.Domains)
	n := &network{numbers: p.Domains, of: make([]set, vars), near: make([]set, vars), failed: slices.Repeat([]int{1}, vars)}
	met := &sums{}
	for _, c := range byCost(p.Constraints) {
		// Without variables there is nothing to hold.
		if len(c.Vars) > 0 {
			n.add(part{newRule(c, p.Domains, met), c.Vars})
		}
	}
	return n
}

// byCost are constraints, those that take least first.
func byCost(l []api.Constraint) []api.Constraint {
	return slices.SortedStableFunc(slices.Values(l), func(x, y api.Constraint) int { return cost(x) - cost(y) })
}

func cost(c api.Constraint) int {
	switch {
	case c.Kind == api.Sum && c.Op != api.Equal:
		return 0
	case c.Kind == api.Pick || c.Kind == api.Times:
		return 1
	case c.Kind == api.Differ:
		return 2
	}
	return 3
}

func newRule(c api.Constraint, numbers [][]int64, met *sums) rule {
	switch c.Kind {
	case api.Sum:
		return newSum(c, numbers, met)
	case api.Times:
		return newTimes(c, numbers)
	case api.Pick:
		return newPick(c, numbers)
	}
	return newDiffer(c, numbers)
}

func (n *network) add(x part) {
	for _, v := range x.vars {
		n.of[v].add(len(n.parts))
		for _, w := range x.vars {
			n.near[v].add(w)
		}
	}
	n.parts = append(n.parts, x)
}

// reduced are the domains in which each number has support; not ok, if one is empty.
func (n *network) reduced() (d domains, ok bool) {
	for _, l := range n.numbers {
		if len(l) == 0 {
			return nil, false
		}
		d = append(d, below(len(l)))
	}
	return d, n.narrow(d, below(len(n.parts)))
}

// narrow takes out of domains what has no support, where only some parts may have such numbers, until there are none; not ok, if a
// domain is empty then.
func (n *network) narrow(d domains, some set) bool {
	for !some.isEmpty() {
		k := some.least()
		changed, ok := n.parts[k].narrow(d)
		if !ok {
			n.blame(n.parts[k])
			return false
		}
		for v := range changed.all() {
			some = some.with(n.of[v])
		}
		some.remove(k)
	}
	return true
}

// narrow says which variables have fewer numbers by it; not ok, if one has none.
func (x part) narrow(d domains) (changed set, ok bool) {
	var was [mostDiffer]set
	for k, v := range x.vars {
		was[k] = d[v]
	}
	x.rule.narrow(d)
	for k, v := range x.vars {
		if d[v].isEmpty() {
			return set{}, false
		}
		if d[v] != was[k] {
			changed.add(v)
		}
	}
	return changed, true
}

// blame a part, which left a variable no number.
func (n *network) blame(x part) {
	for _, v := range x.vars {
		n.failed[v]++
	}
}

// left are the numbers of a variable.
func (n *network) left(d domains, v int) []int64 {
	l := make([]int64, 0, d[v].count())
	for place := range d[v].all() {
		l = append(l, n.numbers[v][place])
	}
	return l
}
