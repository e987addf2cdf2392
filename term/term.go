// Package term: terms, their order, substitutions, generalizations: see doc/01-term.md.
package term

import (
	"cmp"

	"hornbook/api"
)

// Check: P3.
func Check(t api.Term) api.Errno {
	for p := range parts(t) {
		if !wellMade(p) {
			return api.ErrTerm
		}
	}
	return api.OK
}

// Compare: P3.
func Compare(a, b api.Term) (int, api.Errno) {
	if err := checkAll(a, b); err != api.OK {
		return 0, err
	}
	return order(a, b), api.OK
}

// Order is Compare of what are known to be terms.
func Order(a, b api.Term) int {
	return order(a, b)
}

// Measure: P3.
func Measure(t api.Term) (size, depth int, err api.Errno) {
	if err = Check(t); err != api.OK {
		return 0, 0, err
	}
	for range parts(t) {
		size++
	}
	return size, depthOf(t), api.OK
}

// Vars: P3.
func Vars(t api.Term) ([]int64, api.Errno) {
	if err := Check(t); err != api.OK {
		return nil, err
	}
	var list []int64
	met := map[int64]struct{}{}
	for p := range parts(t) {
		if p.Kind != api.Var {
			continue
		}
		if _, again := met[p.N]; !again {
			met[p.N] = struct{}{}
			list = append(list, p.N)
		}
	}
	return list, api.OK
}

// Rename: P3.
func Rename(t api.Term, from int64) (api.Term, int64, api.Errno) {
	if err := Check(t); err != api.OK {
		return api.Term{}, 0, err
	}
	if !isVarNumber(from) {
		return api.Term{}, 0, api.ErrArg
	}
	renamed, next := number(t, from)
	if last := next - 1; last > api.MaxVar {
		return api.Term{}, 0, api.ErrLarge
	}
	return renamed, next, api.OK
}

// Variant: P3.
func Variant(a, b api.Term) (bool, api.Errno) {
	if err := checkAll(a, b); err != api.OK {
		return false, err
	}
	// Numbered from the same number on, variants are one and the same term.
	x, _ := number(a, 0)
	y, _ := number(b, 0)
	return order(x, y) == 0, api.OK
}

func checkAll(list ...api.Term) api.Errno {
	for _, t := range list {
		if err := Check(t); err != api.OK {
			return err
		}
	}
	return api.OK
}

// wellMade looks at t alone, so that a walk can stop ahead of Args that should not be there.
func wellMade(t api.Term) bool {
	switch t.Kind {
	case api.Var:
		return isVarNumber(t.N) && t.Name == "" && len(t.Args) == 0
	case api.Int:
		return t.Name == "" && len(t.Args) == 0
	case api.Atom:
		return t.N == 0 && len(t.Name) <= api.MaxName && len(t.Args) == 0
	case api.Comp:
		return t.N == 0 && len(t.Name) <= api.MaxName && len(t.Args) >= 1 && len(t.Args) <= api.MaxArity
	}
	return false
}

func isVarNumber(n int64) bool {
	return n >= 0 && n <= api.MaxVar
}

// order is no recursion, for walk's reason.
func order(a, b api.Term) int {
	if c := orderTop(a, b); c != 0 {
		return c
	}
	left := append(make([][2][]api.Term, 0, shallow), [2][]api.Term{a.Args, b.Args})
	for len(left) > 0 {
		top := &left[len(left)-1]
		if len(top[0]) == 0 {
			left = left[:len(left)-1]
			continue
		}
		x, y := &top[0][0], &top[1][0]
		if c := orderTop(*x, *y); c != 0 {
			return c
		}
		top[0], top[1] = top[0][1:], top[1][1:]
		if len(top[0]) == 0 {
			*top = [2][]api.Term{x.Args, y.Args}
		} else if len(x.Args) > 0 {
			left = append(left, [2][]api.Term{x.Args, y.Args})
		}
	}
	return 0
}

// orderTop holds fields against each other that a kind may not have: there they are zero in both.
// The kinds' own numbers rise as the order of terms asks.
func orderTop(a, b api.Term) int {
	if c := cmp.Compare(a.Kind, b.Kind); c != 0 {
		return c
	}
	if c := cmp.Compare(a.N, b.N); c != 0 {
		return c
	}
	if c := cmp.Compare(len(a.Args), len(b.Args)); c != 0 {
		return c
	}
	return cmp.Compare(a.Name, b.Name)
}

func depthOf(t api.Term) int {
	deepest := 0
	for _, arg := range t.Args {
		deepest = max(deepest, depthOf(arg))
	}
	return deepest + 1
}

// number gives the variables of t new numbers, and answers the first one that it did not give.
func number(t api.Term, from int64) (api.Term, int64) {
	next := from
	given := map[int64]int64{}
	numbered := replace(t, func(n int64) api.Term {
		to, again := given[n]
		if !again {
			to = next
			given[n] = to
			next++
		}
		return variable(to)
	})
	return numbered, next
}
