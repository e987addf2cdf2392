package term

import (
	"cmp"
	"slices"

	"hornbook/api"
)

// Apply: P4.
func Apply(t api.Term, s []api.Bind) (api.Term, api.Errno) {
	if err := Check(t); err != api.OK {
		return api.Term{}, err
	}
	if err := checkBinds(s); err != api.OK {
		return api.Term{}, err
	}
	return replace(t, becoming(s)), api.OK
}

// Compose: P4.
func Compose(s, u []api.Bind) ([]api.Bind, api.Errno) {
	if err := checkBinds(s, u); err != api.OK {
		return nil, err
	}
	var list []api.Bind
	then := becoming(u)
	for _, b := range s {
		list = appendBind(list, b.Var, replace(b.To, then))
	}
	for _, b := range u {
		if _, bound := find(s, b.Var); !bound {
			list = appendBind(list, b.Var, Copy(b.To))
		}
	}
	sortBinds(list)
	return list, api.OK
}

// Match: P4.
func Match(p, t api.Term) ([]api.Bind, bool, api.Errno) {
	if err := checkAll(p, t); err != api.OK {
		return nil, false, err
	}
	met := map[int64]api.Term{}
	if !matches(p, t, met) {
		return nil, false, api.OK
	}
	var list []api.Bind
	for n, to := range met {
		list = append(list, api.Bind{Var: n, To: Copy(to)})
	}
	sortBinds(list)
	return list, true, api.OK
}

// checkBinds looks for what is no term in all lists ahead of what is no substitution in any.
func checkBinds(lists ...[]api.Bind) api.Errno {
	for _, s := range lists {
		for _, b := range s {
			if err := Check(b.To); err != api.OK {
				return err
			}
		}
	}
	for _, s := range lists {
		if !isRising(s) {
			return api.ErrArg
		}
	}
	return api.OK
}

func isRising(s []api.Bind) bool {
	for k, b := range s {
		if !isVarNumber(b.Var) {
			return false
		}
		if k > 0 && b.Var <= s[k-1].Var {
			return false
		}
	}
	return true
}

// becoming says what a variable becomes by s: new memory each time that it is asked.
func becoming(s []api.Bind) func(n int64) api.Term {
	return func(n int64) api.Term {
		if k, bound := find(s, n); bound {
			return Copy(s[k].To)
		}
		return variable(n)
	}
}

func find(s []api.Bind, n int64) (int, bool) {
	return slices.BinarySearchFunc(s, n, func(b api.Bind, n int64) int {
		return cmp.Compare(b.Var, n)
	})
}

// appendBind leaves a bind out that would do nothing.
func appendBind(list []api.Bind, n int64, to api.Term) []api.Bind {
	if to.Kind == api.Var && to.N == n {
		return list
	}
	return append(list, api.Bind{Var: n, To: to})
}

func sortBinds(list []api.Bind) {
	slices.SortFunc(list, func(a, b api.Bind) int {
		return cmp.Compare(a.Var, b.Var)
	})
}

// matches fills met with what each variable of p stands for; t's variables are as good as atoms here.
func matches(p, t api.Term, met map[int64]api.Term) bool {
	if p.Kind == api.Var {
		if to, again := met[p.N]; again {
			return order(to, t) == 0
		}
		met[p.N] = t
		return true
	}
	if orderTop(p, t) != 0 {
		return false
	}
	for k := range p.Args {
		if !matches(p.Args[k], t.Args[k], met) {
			return false
		}
	}
	return true
}
