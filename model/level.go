package model

import (
	"hornbook/api"
)

// program: rules, and the predicates of their heads and goals, by numbers.
type program struct {
	rules    []rule
	numbers  map[predicate]int
	leanings [][]leaning // of each predicate
	byHead   [][]int     // of each predicate, which rules are of it
}

// leaning: a predicate has a rule with a goal of another one.
type leaning struct {
	on      int
	negated bool
}

func programOf(l []api.Clause) (*program, api.Errno) {
	rules, err := rulesOf(l)
	if err != api.OK {
		return nil, err
	}
	p := &program{rules: rules, numbers: map[predicate]int{}}
	for k, r := range rules {
		head := p.number(r.head)
		p.byHead[head] = append(p.byHead[head], k)
		for _, g := range r.goals {
			on := p.number(g.atom)
			p.leanings[head] = append(p.leanings[head], leaning{on, g.negated})
		}
	}
	return p, api.OK
}

// number of the predicate of an atom, a new one if it was not met before.
func (p *program) number(atom api.Term) int {
	some := predicateOf(atom)
	number, is := p.numbers[some]
	if !is {
		number = len(p.numbers)
		p.numbers[some] = number
		p.leanings = append(p.leanings, nil)
		p.byHead = append(p.byHead, nil)
	}
	return number
}

// all are the numbers of all predicates.
func (p *program) all() []int {
	list := make([]int, len(p.numbers))
	for k := range list {
		list[k] = k
	}
	return list
}

// levels are those of all predicates, if there are such.
func (p *program) levels() (levels []int, are bool) {
	levels = make([]int, len(p.numbers))
	found := p.leanedOn(p.all()...)
	for k, component := range found.list {
		level := 0
		for _, some := range component {
			for _, l := range p.leanings[some] {
				switch {
				case found.of[l.on] != k && l.negated:
					level = max(level, levels[l.on]+1)
				case found.of[l.on] != k:
					level = max(level, levels[l.on])
				case l.negated:
					return nil, false
				}
			}
		}
		for _, some := range component {
			levels[some] = level
		}
	}
	return levels, true
}

// components: predicates that lean on one another stand in one list, which comes behind those of all others that they lean on.
type components struct {
	list [][]int
	of   []int // which of the lists each predicate stands in; none, if it was not come to
}

// none stands for no predicate, and for no goal, step, row, column or slot.
const none = -1

// walk goes from predicate to predicate along their leanings. It is no recursion, as a way may be as long as there are predicates.
type walk struct {
	*program
	components
	met   []int   // of each predicate, as which it was met; none, if it was not
	count int     // how many were met
	path  []place // from the first predicate to where the walk is
	open  []int   // what was met and stands in no list yet, in the order in which it was met
	roots []int   // those that may turn out to be the first met ones of their lists
}

// place: a predicate, and which of its leanings is the next one to go along.
type place struct {
	predicate, next int
}

// leanedOn: the components of some predicates and of all that they lean on.
func (p *program) leanedOn(from ...int) components {
	w := walk{program: p, met: make([]int, len(p.numbers))}
	w.of = make([]int, len(p.numbers))
	for k := range w.met {
		w.met[k], w.of[k] = none, none
	}
	for _, some := range from {
		if w.met[some] == none {
			w.enter(some)
		}
		for len(w.path) > 0 {
			w.goOn()
		}
	}
	return w.components
}

func (w *walk) enter(some int) {
	w.met[some] = w.count
	w.count++
	w.path = append(w.path, place{predicate: some})
	w.open = append(w.open, some)
	w.roots = append(w.roots, some)
}

// goOn goes along the next leaning, or, if there is none left, back.
func (w *walk) goOn() {
	here := &w.path[len(w.path)-1]
	if here.next == len(w.leanings[here.predicate]) {
		w.leave(here.predicate)
		return
	}
	on := w.leanings[here.predicate][here.next].on
	here.next++
	switch {
	case w.met[on] == none:
		w.enter(on)
	case w.of[on] == none:
		// From there the walk came here: all that was met since then stands in one list with it.
		for w.met[w.roots[len(w.roots)-1]] > w.met[on] {
			w.roots = w.roots[:len(w.roots)-1]
		}
	}
}

// leave makes a list of all that leans on a predicate and on which it leans, if it is the first of them that was met.
func (w *walk) leave(some int) {
	w.path = w.path[:len(w.path)-1]
	if w.roots[len(w.roots)-1] != some {
		return
	}
	w.roots = w.roots[:len(w.roots)-1]
	from := len(w.open)
	for from == len(w.open) || w.open[from] != some {
		from--
		w.of[w.open[from]] = len(w.list)
	}
	own := append([]int(nil), w.open[from:]...)
	w.list = append(w.list, own)
	w.open = w.open[:from]
}
