package magic_test

import (
	"slices"
	"strings"

	"hornbook/api"
	"hornbook/base"
	"hornbook/term"
)

// The document's chapter, word by word.

func naiveFlat(t api.Term) bool {
	if !isCallable(t) || isReserved(t) {
		return false
	}
	return !slices.ContainsFunc(t.Args, func(arg api.Term) bool { return arg.Kind == api.Comp })
}

// naiveGoals are the goals of the body of a rule, and whether it is one; those with \+ keep it.
func naiveGoals(body api.Term) ([]api.Term, bool) {
	switch {
	case isOf(body, ",", 2):
		first, ok := naiveGoals(body.Args[0])
		second, also := naiveGoals(body.Args[1])
		return slices.Concat(first, second), ok && also
	case isOf(body, "true", 0):
		return nil, true
	case isOf(body, "\\+", 1) && naiveFlat(body.Args[0]):
		return []api.Term{body}, true
	}
	return []api.Term{body}, naiveFlat(body)
}

func goalsOf(x api.Clause) []api.Term {
	l, _ := naiveGoals(x.Body)
	return l
}

func isNegated(goal api.Term) bool { return isOf(goal, "\\+", 1) }

func varsOf(t api.Term) []int64 {
	l, _ := term.Vars(t)
	return l
}

func naiveSafe(x api.Clause) bool {
	var positive []int64
	for _, g := range goalsOf(x) {
		if !isNegated(g) {
			positive = append(positive, varsOf(g)...)
		}
	}
	return !slices.ContainsFunc(varsOf(c(":-", x.Head, x.Body)), func(n int64) bool { return !slices.Contains(positive, n) })
}

func isSamePredicate(x, y api.Term) bool { return x.Name == y.Name && len(x.Args) == len(y.Args) }

// naiveDerived: is the predicate of an atom derived?
func naiveDerived(l []api.Clause, atom api.Term) bool {
	return slices.ContainsFunc(l, func(x api.Clause) bool {
		return isSamePredicate(x.Head, atom) && !same(x.Body, a("true"))
	})
}

// naiveError: the first that is told.
func naiveError(l []api.Clause, query api.Term) api.Errno {
	if err := term.Check(query); err != api.OK {
		return err
	}
	for _, x := range l {
		if _, err := base.Plain(x); err != api.OK {
			return err
		}
	}
	if slices.ContainsFunc(l, func(x api.Clause) bool { _, is := naiveGoals(x.Body); return !is || !naiveFlat(x.Head) }) {
		return api.ErrKind
	}
	if slices.ContainsFunc(l, func(x api.Clause) bool { return slices.ContainsFunc(goalsOf(x), isNegated) }) {
		return api.ErrKind
	}
	if slices.ContainsFunc(l, func(x api.Clause) bool { return !naiveSafe(x) }) {
		return api.ErrSafe
	}
	if !naiveFlat(query) {
		return api.ErrKind
	}
	atoms := []api.Term{query}
	large := []api.Term{query}
	for _, x := range l {
		atoms = append(append(atoms, x.Head), goalsOf(x)...)
		if !same(x.Body, a("true")) {
			large = append(large, x.Head)
		}
	}
	if slices.ContainsFunc(atoms, func(x api.Term) bool { return strings.Contains(x.Name, "^") || strings.HasPrefix(x.Name, "?") }) {
		return api.ErrKind
	}
	if slices.ContainsFunc(large, func(x api.Term) bool { return len(x.Name) > 40 || len(x.Args) > 40 }) {
		return api.ErrLarge
	}
	return api.OK
}

// naiveMode: bound is what is no variable, or a known one.
func naiveMode(atom api.Term, known []int64) string {
	mode := ""
	for _, arg := range atom.Args {
		if arg.Kind == api.Var && !slices.Contains(known, arg.N) {
			mode += "f"
		} else {
			mode += "b"
		}
	}
	return mode
}

func naiveModed(atom api.Term, mode string) api.Term {
	return api.Term{Kind: atom.Kind, Name: atom.Name + "^" + mode, Args: atom.Args}
}

func naiveAsked(atom api.Term, mode string) api.Term {
	name := "?" + atom.Name + "^" + mode
	l := boundOnes(atom, mode)
	if len(l) == 0 {
		return a(name)
	}
	return c(name, l...)
}

func boundOnes(atom api.Term, mode string) []api.Term {
	var l []api.Term
	for k, letter := range mode {
		if letter == 'b' {
			l = append(l, atom.Args[k])
		}
	}
	return l
}

// modedAtom: one of a predicate, with a mode that is wanted.
type modedAtom struct {
	atom api.Term
	mode string
}

// naiveMagic: P27.
func naiveMagic(l []api.Clause, query api.Term) ([]api.Clause, api.Term, api.Errno) {
	if err := naiveError(l, query); err != api.OK {
		return nil, api.Term{}, err
	}
	if !naiveDerived(l, query) {
		return l, query, api.OK
	}
	first := naiveMode(query, nil)
	out := []api.Clause{fact(naiveAsked(query, first))}
	for _, x := range l {
		if !naiveDerived(l, x.Head) {
			out = append(out, x)
		}
	}
	wanted := []modedAtom{{query, first}}
	for k := 0; k < len(wanted); k++ {
		for _, x := range l {
			if !isSamePredicate(x.Head, wanted[k].atom) {
				continue
			}
			var known []int64
			for _, arg := range boundOnes(x.Head, wanted[k].mode) {
				known = append(known, varsOf(arg)...)
			}
			goals := []api.Term{naiveAsked(x.Head, wanted[k].mode)}
			for _, g := range goalsOf(x) {
				here := g
				if naiveDerived(l, g) {
					mode := naiveMode(g, known)
					if !slices.ContainsFunc(wanted, func(y modedAtom) bool { return isSamePredicate(y.atom, g) && y.mode == mode }) {
						wanted = append(wanted, modedAtom{g, mode})
					}
					out = append(out, naiveClause(naiveAsked(g, mode), goals))
					here = naiveModed(g, mode)
				}
				goals = append(goals, here)
				known = append(known, varsOf(g)...)
			}
			out = append(out, naiveClause(naiveModed(x.Head, wanted[k].mode), goals))
		}
	}
	return out, naiveModed(query, first), api.OK
}

func naiveClause(head api.Term, goals []api.Term) api.Clause {
	x, _ := base.Make(c(":-", head, joined(goals...)))
	return x
}
