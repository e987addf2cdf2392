package proof_test

import (
	"slices"

	"hornbook/api"
	"hornbook/term"
	"hornbook/unify"
)

// The document's chapter, word by word, however long it takes.

// naiveGoals: P17.
func naiveGoals(body api.Term) ([]api.Term, bool) {
	switch {
	case isOf(body, ",", 2):
		first, ok := naiveGoals(body.Args[0])
		second, also := naiveGoals(body.Args[1])
		return slices.Concat(first, second), ok && also
	case isOf(body, "true", 0):
		return nil, true
	case isCallable(body) && !isReserved(body):
		return []api.Term{body}, true
	}
	return nil, false
}

func goalsOf(x api.Clause) []api.Term {
	l, _ := naiveGoals(x.Body)
	return l
}

// apart gives some terms with variables of their own, from a number on, and the first number that they have not.
func apart(from int64, l ...api.Term) ([]api.Term, int64) {
	whole := a("end")
	for _, t := range slices.Backward(l) {
		whole = c("l", t, whole)
	}
	whole, next, _ := term.Rename(whole, from)
	var out []api.Term
	for len(whole.Args) > 0 {
		out = append(out, whole.Args[0])
		whole = whole.Args[1]
	}
	return out, next
}

// solved is a term with the most general unifier of pairs applied, its variables numbered from 0 on.
func solved(t api.Term, pairs []api.Pair) (api.Term, bool) {
	s, err := unify.Solve(pairs)
	if err != api.OK {
		return api.Term{}, false
	}
	t, _ = term.Apply(t, s)
	t, _, _ = term.Rename(t, 0)
	return t, true
}

// naiveFits: is there such a clause everywhere, with as many goals as there are kids?
func naiveFits(l []api.Clause, t api.Tree) bool {
	if t.Clause < 0 || t.Clause >= len(l) || len(t.Kids) != len(goalsOf(l[t.Clause])) {
		return false
	}
	for _, kid := range t.Kids {
		if !naiveFits(l, kid) {
			return false
		}
	}
	return true
}

// naiveShows: P17, of a tree that fits.
func naiveShows(l []api.Clause, t api.Tree) (api.Term, bool) {
	own, next := apart(0, append([]api.Term{l[t.Clause].Head}, goalsOf(l[t.Clause])...)...)
	var pairs []api.Pair
	for k, kid := range t.Kids {
		shown, ok := naiveShows(l, kid)
		if !ok {
			return api.Term{}, false
		}
		var theirs []api.Term
		theirs, next = apart(next, shown)
		pairs = append(pairs, api.Pair{A: own[k+1], B: theirs[0]})
	}
	return solved(own[0], pairs)
}

// trees gives all of at most so much depth that fit, in the order of P18; none, if there are too many.
func trees(l []api.Clause, depth, most int) (all []api.Tree, ok bool) {
	if depth == 0 {
		return nil, true
	}
	below, ok := trees(l, depth-1, most)
	if !ok {
		return nil, false
	}
	for k, x := range l {
		kids := [][]api.Tree{nil}
		for range goalsOf(x) {
			var longer [][]api.Tree
			for _, first := range kids {
				for _, last := range below {
					longer = append(longer, append(slices.Clone(first), last))
				}
			}
			if kids = longer; len(kids) > most {
				return nil, false
			}
		}
		for _, some := range kids {
			all = append(all, tree(k, some...))
		}
	}
	return all, len(all) <= most
}

// shownTrees: those of some trees that show something, with it.
func shownTrees(l []api.Clause, all []api.Tree) []api.Proof {
	var proofs []api.Proof
	for _, t := range all {
		if shown, ok := naiveShows(l, t); ok {
			proofs = append(proofs, api.Proof{Term: shown, Tree: t})
		}
	}
	return proofs
}

// naiveFind: P18, of all trees of that depth that show something.
func naiveFind(goal api.Term, all []api.Proof) []api.Proof {
	var proofs []api.Proof
	for _, p := range all {
		own, next := apart(0, goal)
		theirs, _ := apart(next, p.Term)
		if x, ok := solved(own[0], []api.Pair{{A: own[0], B: theirs[0]}}); ok {
			proofs = append(proofs, api.Proof{Term: x, Tree: p.Tree})
		}
	}
	return proofs
}

// naiveStep: P19, of facts that are such.
func naiveStep(l []api.Clause, facts []api.Term) ([]api.Term, api.Errno) {
	var heads []api.Term
	for _, x := range l {
		goals := goalsOf(x)
		ways := [][]api.Pair{nil}
		for _, goal := range goals {
			var longer [][]api.Pair
			for _, way := range ways {
				for _, f := range facts {
					further := append(slices.Clone(way), api.Pair{A: goal, B: f})
					if _, err := unify.Solve(further); err == api.OK {
						longer = append(longer, further)
					}
				}
			}
			ways = longer
		}
		for _, way := range ways {
			head, _ := solved(x.Head, way)
			if vars, _ := term.Vars(head); len(vars) > 0 {
				return nil, api.ErrSafe
			}
			heads = append(heads, head)
		}
	}
	slices.SortFunc(heads, func(x, y api.Term) int {
		order, _ := term.Compare(x, y)
		return order
	})
	return slices.CompactFunc(heads, same), api.OK
}
