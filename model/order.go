package model

import (
	"container/heap"
	"slices"

	"hornbook/api"
)

// ordering finds an order of a rule's goals in which little has to be gone through. Which one it is is not seen in what follows.
type ordering struct {
	rule
	first   int     // the goal that is gone through for new facts alone, or none
	sizes   []int   // of each goal, how many facts there are
	classes []int   // of each goal, as classesOf tells
	varsIn  [][]int // of each goal, its variables, each once
	users   [][]int // of each variable, the goals that it stands in
	unknown []int   // of each goal, how many of its variables stand in none that was taken
	waiting candidates
}

// candidate: what speaks against taking a goal next, the weightiest first.
type candidate struct {
	ranks [5]int
	goal  int
	about int // how many of its variables were unknown
}

type candidates []candidate

func (c candidates) Len() int           { return len(c) }
func (c candidates) Less(i, j int) bool { return slices.Compare(c[i].ranks[:], c[j].ranks[:]) < 0 }
func (c candidates) Swap(i, j int)      { c[i], c[j] = c[j], c[i] }
func (c *candidates) Push(x any)        { *c = append(*c, x.(candidate)) }
func (c *candidates) Pop() any {
	last := len(*c) - 1
	x := (*c)[last]
	*c = (*c)[:last]
	return x
}

// order of the goals of a rule.
func (f *following) order(r rule, first int) []int {
	o := ordering{rule: r, first: first, users: make([][]int, r.vars())}
	for k, g := range r.goals {
		o.varsIn = append(o.varsIn, varsOf(g.atom))
		o.sizes = append(o.sizes, len(f.relationOf(g.atom).rows))
		o.unknown = append(o.unknown, len(o.varsIn[k]))
		for _, n := range o.varsIn[k] {
			o.users[n] = append(o.users[n], k)
		}
	}
	o.classes = o.classesOf()
	for k := range r.goals {
		o.offer(k)
	}
	taken := make([]bool, len(r.goals))
	known := make([]bool, r.vars())
	var order []int
	for len(o.waiting) > 0 {
		c := heap.Pop(&o.waiting).(candidate)
		if taken[c.goal] || c.about != o.unknown[c.goal] {
			continue
		}
		taken[c.goal] = true
		order = append(order, c.goal)
		for _, n := range o.varsIn[c.goal] {
			if !known[n] {
				known[n] = true
				o.learn(n)
			}
		}
	}
	return order
}

// varsOf are the variables of a flat atom, each once.
func varsOf(atom api.Term) []int {
	var list []int
	for _, arg := range atom.Args {
		if arg.Kind == api.Var && !slices.Contains(list, int(arg.N)) {
			list = append(list, int(arg.N))
		}
	}
	return list
}

// learn: a variable is known from now on.
func (o *ordering) learn(n int) {
	for _, k := range o.users[n] {
		o.unknown[k]--
		o.offer(k)
	}
}

// offer has a goal wait to be taken; one with \+ only when all its variables are known.
func (o *ordering) offer(k int) {
	unknown, size := o.unknown[k], o.sizes[k]
	if o.goals[k].negated && unknown > 0 {
		return
	}
	c := candidate{goal: k, about: unknown}
	switch {
	case k == o.first:
		c.ranks = [5]int{o.classes[k], 0}
	case unknown == 0:
		c.ranks = [5]int{o.classes[k], 1, 0, 0, k}
	case o.isPartlyKnown(k):
		c.ranks = [5]int{o.classes[k], 2, unknown, size, k}
	default:
		c.ranks = [5]int{o.classes[k], 3, size, unknown, k}
	}
	heap.Push(&o.waiting, c)
}

// isPartlyKnown: has a goal a constant, or a variable that is known?
func (o *ordering) isPartlyKnown(k int) bool {
	return o.unknown[k] < len(o.varsIn[k]) ||
		slices.ContainsFunc(o.goals[k].atom.Args, func(arg api.Term) bool { return arg.Kind != api.Var })
}

// classesOf parts the goals: those that share variables, at once or by others, stand together. Whether those can be made true that share
// none with the head or the first goal is asked once: they come ahead. Then come those that stand together with the first goal.
func (o *ordering) classesOf() []int {
	const alone, withFirst, withHead = 0, 1, 2
	t := together(make([]int, len(o.users)))
	for n := range t {
		t[n] = n
	}
	for _, vars := range o.varsIn {
		for _, n := range vars {
			t.join(vars[0], n)
		}
	}
	byGroup := make([]int, len(o.users))
	for _, n := range varsOf(o.head) {
		byGroup[t.group(n)] = withHead
	}
	if o.first != none && len(o.varsIn[o.first]) > 0 {
		byGroup[t.group(o.varsIn[o.first][0])] = withFirst
	}
	classes := make([]int, len(o.goals))
	for k, vars := range o.varsIn {
		switch {
		case k == o.first:
			classes[k] = withFirst
		case len(vars) > 0:
			classes[k] = byGroup[t.group(vars[0])]
		default:
			classes[k] = alone
		}
	}
	return classes
}

// together: of each variable another one of its group, or itself, if it stands for the group.
type together []int

func (t together) group(n int) int {
	for t[n] != n {
		t[n] = t[t[n]]
		n = t[n]
	}
	return n
}

func (t together) join(n, m int) {
	t[t.group(n)] = t.group(m)
}
