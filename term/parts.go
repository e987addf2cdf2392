package term

import (
	"iter"

	"hornbook/api"
)

// shallow is how much room a walk has at first: most terms are not nested deeper.
const shallow = 8

// parts yields a compound ahead of its Args, and these from the left.
func parts(t api.Term) iter.Seq[api.Term] {
	return func(yield func(api.Term) bool) {
		walk(t, yield)
	}
}

// walk is no recursion, as a search may make terms that are nested deeper than any that was handed in:
// what is left to be gone through stands in a list of lists, and none is kept there of which nothing is left.
func walk(t api.Term, yield func(api.Term) bool) {
	if !yield(t) {
		return
	}
	left := append(make([][]api.Term, 0, shallow), t.Args)
	for len(left) > 0 {
		last := len(left) - 1
		if len(left[last]) == 0 {
			left = left[:last]
			continue
		}
		next := left[last][0]
		left[last] = left[last][1:]
		if !yield(next) {
			return
		}
		if len(left[last]) == 0 {
			left[last] = next.Args
		} else if len(next.Args) > 0 {
			left = append(left, next.Args)
		}
	}
}

// filling: some terms, and the places, as many, for what is made of them.
type filling struct {
	from, to []api.Term
}

// replace makes a new term of t. It asks become for each variable, from the left,
// and takes what that answers as it is: so become must make new memory each time.
func replace(t api.Term, become func(n int64) api.Term) api.Term {
	whole, args := replaceTop(t, become)
	left := append(make([]filling, 0, shallow), filling{t.Args, args})
	for len(left) > 0 {
		top := &left[len(left)-1]
		if len(top.to) == 0 {
			left = left[:len(left)-1]
			continue
		}
		from := top.from[0]
		made, args := replaceTop(from, become)
		top.to[0] = made
		top.from, top.to = top.from[1:], top.to[1:]
		if len(top.to) == 0 {
			*top = filling{from.Args, args}
		} else if len(args) > 0 {
			left = append(left, filling{from.Args, args})
		}
	}
	return whole
}

// replaceTop leaves the Args of a compound to be filled.
func replaceTop(t api.Term, become func(n int64) api.Term) (made api.Term, args []api.Term) {
	switch t.Kind {
	case api.Var:
		return become(t.N), nil
	case api.Comp:
		args = make([]api.Term, len(t.Args))
		return api.Term{Kind: api.Comp, Name: t.Name, Args: args}, args
	}
	// Args stays behind: even with nothing in it, it may have room that is the caller's.
	return api.Term{Kind: t.Kind, N: t.N, Name: t.Name}, nil
}

// Copy is of what is known to be a term.
func Copy(t api.Term) api.Term {
	return replace(t, variable)
}

func variable(n int64) api.Term {
	return api.Term{Kind: api.Var, N: n}
}
