package ground_test

import (
	"slices"
	"strconv"

	"hornbook/api"
	"hornbook/base"
	"hornbook/term"
)

// The document's chapter, word by word.

// naivePlain: has a body nothing in it but goals?
func naivePlain(body api.Term) bool {
	if isOf(body, ",", 2) {
		return naivePlain(body.Args[0]) && naivePlain(body.Args[1])
	}
	return isOf(body, "true", 0) || isCallable(body) && !isReserved(body)
}

func naiveGoals(body api.Term) []api.Term {
	switch {
	case isOf(body, ",", 2):
		return append(naiveGoals(body.Args[0]), naiveGoals(body.Args[1])...)
	case isOf(body, "true", 0):
		return nil
	}
	return []api.Term{body}
}

func varsOf(t api.Term) []int64 {
	l, _ := term.Vars(t)
	return l
}

func wholeOf(x api.Clause) api.Term { return c(":-", x.Head, x.Body) }

// atomsOf are the head and the goals.
func atomsOf(x api.Clause) []api.Term {
	return append([]api.Term{x.Head}, naiveGoals(x.Body)...)
}

func naiveError(l []api.Clause) api.Errno {
	for _, x := range l {
		if _, err := base.Plain(x); err != api.OK {
			return err
		}
	}
	if slices.ContainsFunc(l, func(x api.Clause) bool { return !naivePlain(x.Body) }) {
		return api.ErrKind
	}
	for _, x := range l {
		if len(varsOf(wholeOf(x))) > 10 || slices.ContainsFunc(atomsOf(x), func(t api.Term) bool { return len(t.Args) > 8 }) {
			return api.ErrLarge
		}
	}
	return api.OK
}

// shape of an atom's predicate, without rows.
func shapeOf(t api.Term) api.Shape { return api.Shape{Name: t.Name, N: len(t.Args)} }

func nameOf(t api.Term) string { return t.Name + "/" + strconv.Itoa(len(t.Args)) }

// rowOf an atom, if just some variables are ground.
func rowOf(t api.Term, ground map[int64]bool) int {
	row := 0
	for k, arg := range t.Args {
		if !slices.ContainsFunc(varsOf(arg), func(n int64) bool { return !ground[n] }) {
			row += 1 << k
		}
	}
	return row
}

// everyChoice of which of some variables are ground.
func everyChoice(vars []int64) []map[int64]bool {
	if len(vars) == 0 {
		return []map[int64]bool{{}}
	}
	var l []map[int64]bool
	for _, is := range []bool{false, true} {
		for _, choice := range everyChoice(vars[1:]) {
			choice[vars[0]] = is
			l = append(l, choice)
		}
	}
	return l
}

// naiveRows: the least ones with which it holds of each clause.
func naiveRows(l []api.Clause) map[string]map[int]bool {
	rows := map[string]map[int]bool{}
	for _, x := range l {
		for _, t := range atomsOf(x) {
			rows[nameOf(t)] = map[int]bool{}
		}
	}
	for more := true; more; {
		more = false
		for _, x := range l {
			for _, choice := range everyChoice(varsOf(wholeOf(x))) {
				isNone := func(t api.Term) bool { return !rows[nameOf(t)][rowOf(t, choice)] }
				if slices.ContainsFunc(naiveGoals(x.Body), isNone) || !isNone(x.Head) {
					continue
				}
				rows[nameOf(x.Head)][rowOf(x.Head, choice)] = true
				more = true
			}
		}
	}
	return rows
}

// naiveAnalyse: P28.
func naiveAnalyse(l []api.Clause) ([]api.Shape, api.Errno) {
	if err := naiveError(l); err != api.OK {
		return nil, err
	}
	rows := naiveRows(l)
	var out []api.Shape
	for _, x := range l {
		for _, t := range atomsOf(x) {
			if slices.ContainsFunc(out, func(s api.Shape) bool { return s.Name == t.Name && s.N == len(t.Args) }) {
				continue
			}
			s := shapeOf(t)
			for row := range 1 << s.N {
				if rows[nameOf(t)][row] {
					s.Rows = append(s.Rows, row)
				}
			}
			out = append(out, s)
		}
	}
	slices.SortFunc(out, func(x, y api.Shape) int {
		switch {
		case x.N != y.N:
			return x.N - y.N
		case x.Name < y.Name:
			return -1
		case x.Name > y.Name:
			return 1
		}
		return 0
	})
	return out, api.OK
}
