package proof

import (
	"slices"

	"hornbook/api"
	"hornbook/cell"
)

// placesOf are the clauses of a tree, each ahead of those of its kids, as a search takes them. The tree does not fit
// if there is no such clause, or it has another number of goals than there are kids.
func placesOf(t api.Tree, bodies [][]api.Term) (places []int, fits bool) {
	left := []api.Tree{t}
	for len(left) > 0 {
		next := left[len(left)-1]
		left = left[:len(left)-1]
		if next.Clause < 0 || next.Clause >= len(bodies) || len(next.Kids) != len(bodies[next.Clause]) {
			return nil, false
		}
		places = append(places, next.Clause)
		for _, kid := range slices.Backward(next.Kids) {
			left = append(left, kid)
		}
	}
	return places, true
}

// treeOf is the tree that has these places.
func treeOf(places []int, bodies [][]api.Term) api.Tree {
	var whole api.Tree
	left := []*api.Tree{&whole}
	for _, place := range places {
		t := left[len(left)-1]
		left = left[:len(left)-1]
		t.Clause = place
		if len(bodies[place]) == 0 {
			continue
		}
		t.Kids = make([]api.Tree, len(bodies[place]))
		for k := range slices.Backward(t.Kids) {
			left = append(left, &t.Kids[k])
		}
	}
	return whole
}

// shownBy is what a tree shows, by its places; false, if there is nothing. A search that is told which clauses to take
// asks for all that the first one's predicate may be.
func shownBy(l []api.Clause, places []int) (api.Term, bool) {
	s := &search{}
	s.store.Later()
	asked := s.mostGeneral(l[places[0]].Head)
	s.come(asked, nil, len(places))
	rules := make([]*cell.Rule, len(l))
	for _, place := range places {
		s.unfold()
		head := l[place].Head
		name, args := s.built(s.goals)
		if name != head.Name || len(args) != len(head.Args) {
			return api.Term{}, false
		}
		if rules[place] == nil {
			rules[place] = cell.NewRule(l[place])
		}
		if !s.take(place, rules[place], s.goals, args) {
			return api.Term{}, false
		}
	}
	if s.store.Loops() {
		return api.Term{}, false
	}
	return cell.Written(asked), true
}

// mostGeneral is the goal of a head's predicate that has a new variable as each Arg.
func (s *search) mostGeneral(head api.Term) cell.Value {
	args := make([]cell.Value, len(head.Args))
	for k := range args {
		args[k] = s.store.Variable()
	}
	return cell.Made(head.Name, args...)
}
