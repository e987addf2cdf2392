package term

import (
	"iter"

	"hornbook/api"
)

// parts yields a compound ahead of its Args, and these from the left.
func parts(t api.Term) iter.Seq[api.Term] {
	return func(yield func(api.Term) bool) {
		walk(t, yield)
	}
}

// walk hands the same yield inwards, so that a part costs no more the deeper it lies.
func walk(t api.Term, yield func(api.Term) bool) bool {
	if !yield(t) {
		return false
	}
	for _, arg := range t.Args {
		if !walk(arg, yield) {
			return false
		}
	}
	return true
}

// replace makes a new term of t. It asks become for each variable, from the left,
// and takes what that answers as it is: so become must make new memory each time.
func replace(t api.Term, become func(n int64) api.Term) api.Term {
	switch t.Kind {
	case api.Var:
		return become(t.N)
	case api.Comp:
		args := make([]api.Term, len(t.Args))
		for k, arg := range t.Args {
			args[k] = replace(arg, become)
		}
		return api.Term{Kind: api.Comp, Name: t.Name, Args: args}
	}
	// Args stays behind: even with nothing in it, it may have room that is the caller's.
	return api.Term{Kind: t.Kind, N: t.N, Name: t.Name}
}

func copyOf(t api.Term) api.Term {
	return replace(t, variable)
}

func variable(n int64) api.Term {
	return api.Term{Kind: api.Var, N: n}
}
