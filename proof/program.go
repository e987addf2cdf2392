package proof

import (
	"math"

	"hornbook/api"
	"hornbook/base"
)

const (
	truth = "true"
	and   = ","
)

// predicate: a name and a number of Args.
type predicate struct {
	name string
	args int
}

func predicateOf(t api.Term) predicate {
	return predicate{t.Name, len(t.Args)}
}

// isGoal: is it an atom or a compound of no reserved predicate?
func isGoal(t api.Term) bool {
	return (t.Kind == api.Atom || t.Kind == api.Comp) && !base.Reserved(t.Name, len(t.Args))
}

// goalsOf are the goals of a body, and whether it is plain. They share the body's memory.
func goalsOf(body api.Term) (goals []api.Term, plain bool) {
	left := []api.Term{body}
	for len(left) > 0 {
		t := left[len(left)-1]
		left = left[:len(left)-1]
		switch {
		case t.Kind == api.Comp && predicateOf(t) == predicate{and, 2}:
			left = append(left, t.Args[1], t.Args[0])
		case t.Kind == api.Atom && t.Name == truth:
		case isGoal(t):
			goals = append(goals, t)
		default:
			return nil, false
		}
	}
	return goals, true
}

// plainBodies are the goals of each clause's body. That a clause is none goes ahead of a body that is not plain, wherever they stand.
func plainBodies(l []api.Clause) ([][]api.Term, api.Errno) {
	for _, c := range l {
		if _, err := base.Plain(c); err != api.OK {
			return nil, err
		}
	}
	bodies := make([][]api.Term, len(l))
	for k, c := range l {
		goals, plain := goalsOf(c.Body)
		if !plain {
			return nil, api.ErrKind
		}
		bodies[k] = goals
	}
	return bodies, api.OK
}

// program: clauses that are ready to be searched through. The place of a clause is 1 less than its id in the base.
type program struct {
	base  *base.Base
	least []int
}

func newProgram(l []api.Clause, bodies [][]api.Term) *program {
	p := &program{base: base.New(), least: leastDepths(l, bodies)}
	for _, c := range l {
		p.base.Add(c, false)
	}
	return p
}

// never is the depth of proofs that there are not.
const never = math.MaxInt

// leastDepths tells of each clause how deep a proof by it is at least, as far as the predicates of heads and goals alone say it:
// so a search needs not go into clauses by which it can't come to an end.
func leastDepths(l []api.Clause, bodies [][]api.Term) []int {
	depths := make([]int, len(l))
	missing := make([]int, len(l)) // how many goals of a clause have no proof yet
	waiting := map[predicate][]int{}
	var found []int // clauses, their depths rising
	for k, goals := range bodies {
		depths[k], missing[k] = never, len(goals)
		if len(goals) == 0 {
			depths[k] = 1
			found = append(found, k)
		}
		for _, goal := range goals {
			p := predicateOf(goal)
			waiting[p] = append(waiting[p], k)
		}
	}
	for at := 0; at < len(found); at++ {
		k := found[at]
		p := predicateOf(l[k].Head)
		for _, m := range waiting[p] {
			missing[m]--
			if missing[m] == 0 {
				depths[m] = depths[k] + 1
				found = append(found, m)
			}
		}
		// Another clause of the predicate is no less deep.
		delete(waiting, p)
	}
	return depths
}
