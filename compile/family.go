package compile

import (
	"hornbook/api"
)

// family: the clauses of a predicate, in their order.
type family struct {
	predicate api.Constant
	clauses   []api.Clause
}

func families(l []api.Clause) []family {
	var all []family
	places := map[api.Constant]int{}
	for _, c := range l {
		p := predicateOf(c.Head)
		k, is := places[p]
		if !is {
			k = len(all)
			places[p] = k
			all = append(all, family{predicate: p})
		}
		all[k].clauses = append(all[k].clauses, c)
	}
	return all
}

// family writes an entry and clauses. A choice is made only where a clause that comes later may be the goal's too, by its first Arg:
// so a program that goes on and on keeps no more choices than a search would.
func (w *writer) family(f family) {
	if w.isTooLarge() {
		return
	}
	w.code.Entries = append(w.code.Entries, api.Entry{Name: f.predicate.Name, N: int(f.predicate.N), At: len(w.code.Instrs)})
	later := map[api.Constant]int{}
	for _, c := range f.clauses {
		later[keyOf(c)]++
	}
	for k, c := range f.clauses {
		later[keyOf(c)]--
		var next []int
		if k < len(f.clauses)-1 {
			next = w.choice(keyOf(c), later, f.clauses[k+1:])
		}
		w.clause(c)
		w.leadHere(next...)
		if w.isTooLarge() {
			return
		}
	}
}

// keyOf is what is seen of a clause's first Arg. The zero key is that of a variable, and of no Arg: they keep nothing out.
func keyOf(c api.Clause) api.Constant {
	if len(c.Head.Args) == 0 || c.Head.Args[0].Kind == api.Var {
		return api.Constant{}
	}
	return constantOf(c.Head.Args[0])
}

// choice writes what stands ahead of a clause that has others behind it, of which it gets how many there are of each key.
// It answers the places of what goes on at the next clause.
func (w *writer) choice(key api.Constant, later map[api.Constant]int, clauses []api.Clause) (next []int) {
	var anyKey api.Constant
	if key != anyKey {
		next = append(next, w.unless(key))
	}
	if later[anyKey] > 0 || later[key] > 0 {
		return append(next, w.write(api.Instr{Op: api.Try}))
	}
	var alone int // goes on at the clause without a choice
	if key == anyKey {
		alone = w.unlessOneOf(clauses)
	} else {
		// Here arg 0 is of this key or a variable, and only what is no variable is found to be unlike another key.
		alone = w.unless(unlike(key))
	}
	next = append(next, w.write(api.Instr{Op: api.Try}))
	w.leadHere(alone)
	return next
}

// unless writes what goes on elsewhere if arg 0 is no variable, and not of that key.
func (w *writer) unless(key api.Constant) int {
	if key.Kind == api.Comp {
		return w.write(api.Instr{Op: api.UnlessComp, Con: key})
	}
	return w.write(api.Instr{Op: api.UnlessConst, Con: key})
}

// unlessOneOf writes what goes on elsewhere if arg 0 is no variable, and of no key that some clauses have.
func (w *writer) unlessOneOf(clauses []api.Clause) (elsewhere int) {
	var found []int
	met := map[api.Constant]int{}
	for _, c := range clauses {
		key := keyOf(c)
		if met[key] > 0 {
			continue
		}
		if len(met) > 0 {
			found = append(found, w.write(api.Instr{Op: api.Jump}))
			w.leadHere(elsewhere)
		}
		met[key]++
		elsewhere = w.unless(key)
	}
	w.leadHere(found...)
	return elsewhere
}

// unlike is a key that is not this one.
func unlike(key api.Constant) api.Constant {
	if key.Kind == api.Int {
		return api.Constant{Kind: api.Atom}
	}
	return api.Constant{Kind: api.Int}
}
